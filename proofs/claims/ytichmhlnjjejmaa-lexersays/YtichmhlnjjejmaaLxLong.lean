/-
  The contracts of pushref.Longest and lexer.longest: both find the longest token at a place.
-/
import Derived.Test.YtichmhlnjjejmaaLxLow
namespace Go.Proofs.Ytichmhlnjjejmaa
open Go.RowKit
open Dfa

theorem tagOf_ge {T : Nat → Int} {m : Nat} (h : upOk m T 19 = true) {q : Int} (hq : q < (m : Int)) : -1 ≤ tagOf T q ∧ tagOf T q ≤ 19 := by
  unfold tagOf
  split
  · omega
  · exact up_at h q.toNat (by omega)

set_option maxHeartbeats 1600000 in
set_option maxRecDepth 20000 in
theorem refLong_any (rv tv : Value) (n : Nat) (R : Nat → Nat → Int) (T : Nat → Int) (s : ByteArray) (w : World) (hr : Rw w rv n R) (ht : Ts w tv n T) (h0 : 0 < n) (hok : rowsOk n R = true) (hs : s.size ≤ 2000) :
    Calls Try.prog 10 #[.agg #[rv, tv], .string s] w fun e w' => e = .returned (.tuple #[.int .i64 (lng R T s.data.toList).1, .int .i64 ((lng R T s.data.toList).2 : Int)]) ∧ Below w.heap.size w w' := by
  have HT : Hid (Ts w tv n T) := ht
  obtain ⟨ao, cap, rfl, hn, hwf, hcs⟩ := hr
  have HW : Hid (∀ i j, -32768 ≤ R i j ∧ R i j ≤ 32767) := hwf
  have HO : Hid (rowsOk n R = true) := hok
  obtain ⟨b, o, rfl, hb, hc⟩ := hcs.resolve_left (by omega)
  have HC : Hid (∀ i, i < n → ∀ j, j < 256 → w.cell? ⟨b, o + i * 256 + j, none⟩ = some (.int .i16 (R i j))) := hc
  obtain ⟨aa, mm, cc, rfl⟩ : ∃ a m c, tv = .slice a m c := by obtain ⟨a, c, h, -⟩ := ht; exact ⟨_, _, _, h⟩
  have hG := Goes.start R T s.data.toList
  obtain ⟨ans, HA⟩ : ∃ a, Hid (lng R T s.data.toList = a) := ⟨_, (rfl : lng R T s.data.toList = lng R T s.data.toList)⟩
  rw [HA.out] at hG ⊢
  clear hwf hok hcs hc ht
  go_enter Try.func10, Try.ntmps10
  go_wp2_with fail
  go_loopw [4, 5, 6, 7] (fun rr zz qq i wr => ∃ (k z : Nat) (q r : Int), k ≤ s.size ∧ z ≤ k ∧ i = .int .i64 (k : Int) ∧ rr = .int .i64 r ∧ zz = .int .i64 (z : Int) ∧ qq = .int .i64 q ∧ At n q ∧ Goes R T s.data.toList k q r z ans ∧ wr.cell? ⟨w.heap.size, 0, none⟩ = some (.slice (some ⟨b, o, none⟩) n cap) ∧ wr.cell? ⟨w.heap.size, 1, none⟩ = some (.slice aa mm cc) ∧ w.heap.size < wr.heap.size ∧ Below w.heap.size w wr) (fun _ _ _ i _ => s.size - (intOf i).toNat)
  case atStart => exact ⟨0, 0, 0, 0, by omega, by omega, rfl, rfl, rfl, rfl, ⟨by omega, by omega⟩, hG, by simp, by simp, by simp, (Below.refl _ _).alloc (Nat.le_refl _) _⟩
  case round =>
    obtain ⟨k, z, q, r, hk, hz, rfl, rfl, rfl, rfl, ⟨hq1, hq2⟩, hgo, hc0, hc1, hws, hbel⟩ := hrel
    have HG : Hid (Goes R T s.data.toList k q r z ans) := hgo
    have hsb := hbel.size
    clear hgo hG
    by_cases hlt : k < s.size
    · have hk1 : (k : Int) < (s.size : Int) := by omega
      by_cases hq : q < 0
      · have HE : Hid (ans = (r, z)) := HG.out.over (Or.inr hq)
        go_wp2_with fail
        go_ret2
        exact ⟨by rw [HE.out]; rfl, hbel⟩
      · obtain ⟨p, rfl⟩ : ∃ p : Nat, q = (p : Int) := ⟨q.toNat, by omega⟩
        have hp : p < n := by omega
        have hp1 : (p : Int) < (n : Int) := by omega
        have hp0 : (0 : Int) ≤ (p : Int) := by omega
        have hbr := byte_run s k hlt
        obtain ⟨x, HX⟩ : ∃ x, Hid (s[k] = x) := ⟨_, (rfl : s[k] = s[k])⟩
        rw [HX.out] at hbr
        have hx : x.toNat < 256 := x.toNat_lt
        have hx1 : (x.toNat : Int) < 256 := by omega
        have c0 : wr.cell? ⟨b, o + p * 256 + x.toNat, none⟩ = some (.int .i16 (R p x.toNat)) := (hbel.cell (p := ⟨b, o + p * 256 + x.toNat, none⟩) hb).trans (HC.out p hp x.toNat hx)
        have hzz := HW.out p x.toNat
        have hat : At n (R p x.toNat) := by
          have h1 := all_at (all_at HO.out p hp) x.toNat hx
          simp only [numOk, Bool.and_eq_true, decide_eq_true_eq] at h1
          exact h1
        have HN : Hid (tagOf T (R p x.toNat) < 0 → Goes R T s.data.toList (k + 1) (R p x.toNat) r z ans) := fun h => HG.out.none (by rw [drop_cons s k hlt, HX.out]) h
        have HM : Hid (¬ tagOf T (R p x.toNat) < 0 → Goes R T s.data.toList (k + 1) (R p x.toNat) (tagOf T (R p x.toNat)) (k + 1) ans) := fun h => HG.out.some (by rw [drop_cons s k hlt, HX.out]) h
        obtain ⟨y, HY⟩ : ∃ y, Hid (R p x.toNat = y) := ⟨_, (rfl : R p x.toNat = R p x.toNat)⟩
        rw [HY.out] at c0 hzz hat HN HM
        have HAT : Hid (At n y) := hat
        have hwr := wrap_small hzz
        clear hzz hat
        go_wp2_with (go_quiet (fail))
        have hbel1 := below_drewN hbel nq
        have d0 : (wr.drewN nq).cell? ⟨w.heap.size, 0, none⟩ = _ := hc0
        have d1 : (wr.drewN nq).cell? ⟨w.heap.size, 1, none⟩ = _ := hc1
        have dws : w.heap.size < (wr.drewN nq).heap.size := hws
        generalize wr.drewN nq = w1 at hbel1 d0 d1 dws ⊢
        clear hbel hc0 hc1 hws c0 hwr
        refine (tagOf_any _ _ n T y w1 (HT.out.below hbel1 (Nat.le_refl _)) HAT.out.2).mono ?_
        rintro _ w2 ⟨rfl, hb2⟩
        have e0 : w2.cell? ⟨w.heap.size, 0, none⟩ = _ := (hb2.cell (p := ⟨w.heap.size, 0, none⟩) dws).trans d0
        have e1 : w2.cell? ⟨w.heap.size, 1, none⟩ = _ := (hb2.cell (p := ⟨w.heap.size, 1, none⟩) dws).trans d1
        have ews : w.heap.size < w2.heap.size := Nat.lt_of_lt_of_le dws hb2.size
        have hbel2 : Below w.heap.size w w2 := hbel1.trans (hb2.mono (by omega))
        clear hb2 hbel1 d0 d1 dws
        obtain ⟨t, HTT⟩ : ∃ t, Hid (tagOf T y = t) := ⟨_, (rfl : tagOf T y = tagOf T y)⟩
        rw [HTT.out] at HN HM ⊢
        by_cases ht : t < 0
        · go_wp2_with fail
          go_roundw
          case rel => exact ⟨k + 1, z, y, r, by omega, by omega, by go_num, rfl, rfl, rfl, HAT.out, HN.out ht, e0, e1, ews, hbel2⟩
          case measure => simp [intOf]; omega
        · go_wp2_with fail
          refine (tagOf_any _ _ n T y w2 (HT.out.below hbel2 (Nat.le_refl _)) HAT.out.2).mono ?_
          rintro _ w3 ⟨rfl, hb3⟩
          have g0 : w3.cell? ⟨w.heap.size, 0, none⟩ = _ := (hb3.cell (p := ⟨w.heap.size, 0, none⟩) ews).trans e0
          have g1 : w3.cell? ⟨w.heap.size, 1, none⟩ = _ := (hb3.cell (p := ⟨w.heap.size, 1, none⟩) ews).trans e1
          have gws : w.heap.size < w3.heap.size := Nat.lt_of_lt_of_le ews hb3.size
          have hbel3 : Below w.heap.size w w3 := hbel2.trans (hb3.mono (by omega))
          clear hb3 hbel2 e0 e1 ews
          rw [HTT.out]
          go_wp2_with fail
          go_roundw
          case rel => exact ⟨k + 1, k + 1, y, t, by omega, by omega, by go_num, rfl, by go_num, rfl, HAT.out, HM.out ht, g0, g1, gws, hbel3⟩
          case measure => simp [intOf]; omega
    · have HE : Hid (ans = (r, z)) := HG.out.over (Or.inl (drop_all s k (by omega)))
      have hk1 : ¬ (k : Int) < (s.size : Int) := by omega
      go_wp2_with fail
      go_ret2
      exact ⟨by rw [HE.out]; rfl, hbel⟩

/-- The rest of the call: what lies in the token is handed back. -/
def Tok (f : Nat) (ans : Int × Nat) (e : Ending) : Prop := ∃ (a b c : Int) (bb : Bool), e = .returned (.tuple #[.agg #[.int .i64 a, .int .i64 b, .int .i64 c], .bool bb]) ∧ Tv f ans.1 ans.2 bb a b c

set_option maxHeartbeats 1600000 in
set_option maxRecDepth 20000 in
theorem long_any (O : Nat → Nat) (nv tv : Value) (n : Nat) (L : Nat → Nat) (X : Nat → Nat → Int) (T : Nat → Int) (s : ByteArray) (f : Nat) (w : World) (hO : ∀ j, O j < 256) (hx : Nx w nv n L X) (ht : Ts w tv n T) (hok : chkP n n O L X T = 0) (hs : s.size ≤ 2000) (hf : f ≤ s.size) :
    Calls Try.prog 12 #[.agg (pl O nv tv).toArray, .string s, .int .i64 (f : Int)] w fun e w' => Tok f (lng (RR n O X) T (s.data.toList.drop f)) e ∧ Below w.heap.size w w' := by
  obtain ⟨hn0, hn1, -, hcols, hsts, htgs⟩ := chkP_zero hok
  have HX0 : Hid (Nx w nv n L X) := hx
  have HT0 : Hid (Ts w tv n T) := ht
  have HCO : Hid (∀ i j, i < n → j < 256 → O j < L i ∧ -1 ≤ X i (O j) ∧ X i (O j) ≤ (n : Int) - 1) := fun i j hi hj => by
    obtain ⟨g1, g2, g3⟩ := cols_at hcols
    have h2 : O j < L i := by rw [g1 i hi]; exact g3 j hj
    exact ⟨h2, states_at hsts i (O j) hi h2⟩
  have HTG : Hid (∀ i, i < n → -1 ≤ T i ∧ T i ≤ 19) := fun i hi => up_at htgs i hi
  have HO : Hid (∀ j, O j < 256) := hO
  obtain ⟨l, HLL⟩ : ∃ l, Hid (pl O nv tv = l) := ⟨_, (rfl : pl O nv tv = pl O nv tv)⟩
  have HP : Hid (Px w w.heap.size O nv tv n n L X T l (w.alloc (Obj.cells l.toArray 26))) := Px.box HLL.out hx ht
  rw [HLL.out]
  obtain ⟨ao, cap, rfl, hn, hxc⟩ := id hx
  obtain ⟨b, o, rfl, hbw, -⟩ := hxc.resolve_left (by omega)
  obtain ⟨ao', cap2, rfl, hm, hwf, htc⟩ := id ht
  obtain ⟨b2, o2, rfl, hb2w, -⟩ := htc.resolve_left (by omega)
  have hG := Goes.start (RR n O X) T (s.data.toList.drop f)
  obtain ⟨ans, HA⟩ : ∃ a, Hid (lng (RR n O X) T (s.data.toList.drop f) = a) := ⟨_, (rfl : lng _ _ _ = lng _ _ _)⟩
  rw [HA.out] at hG ⊢
  have HP1 : Hid (Px w w.heap.size O (.slice (some ⟨b, o, none⟩) n cap) (.slice (some ⟨b2, o2, none⟩) n cap2) n n L X T l ((w.alloc (Obj.cells l.toArray 26)).alloc (Obj.cells #[.int .i64 0, .int .i64 0, .int .i64 0] 33))) := HP.out.step ((Below.refl _ _).alloc (Nat.le_refl _) _)
  have HBK : Hid (((w.alloc (Obj.cells l.toArray 26)).alloc (Obj.cells #[.int .i64 0, .int .i64 0, .int .i64 0] 33)).heap[w.heap.size + 1]? = some (.cells #[.int .i64 0, .int .i64 0, .int .i64 0] 33 (0, 0))) := by
    have := heap_alloc_new (w.alloc (Obj.cells l.toArray 26)) (Obj.cells #[.int .i64 0, .int .i64 0, .int .i64 0] 33)
    rwa [World.size_alloc] at this
  have hsz : w.heap.size + 1 < ((w.alloc (Obj.cells l.toArray 26)).alloc (Obj.cells #[.int .i64 0, .int .i64 0, .int .i64 0] 33)).heap.size := by simp
  clear hcols hsts htgs hO hx ht hxc htc hwf HP hok
  go_enter Try.func12, Try.ntmps12
  go_wp2_with fail
  go_loopw [7, 8, 9] (fun iv qv av wr => ∃ (k z p : Nat) (r ta tb tc : Int) (bb : Bool), f + k ≤ s.size ∧ z ≤ k ∧ p < n ∧ iv = .bool bb ∧ qv = .int .i64 (p : Int) ∧ av = .int .i64 ((f + k : Nat) : Int) ∧ Tv f r z bb ta tb tc ∧ Goes (RR n O X) T (s.data.toList.drop f) k (p : Int) r z ans ∧ w.heap.size + 1 < wr.heap.size ∧ wr.heap[w.heap.size + 1]? = some (.cells #[.int .i64 ta, .int .i64 tb, .int .i64 tc] 33 (0, 0)) ∧
      Px w w.heap.size O (.slice (some ⟨b, o, none⟩) n cap) (.slice (some ⟨b2, o2, none⟩) n cap2) n n L X T l wr) (fun _ _ av _ => s.size - (intOf av).toNat)
  case atStart => exact ⟨0, 0, 0, 0, 0, 0, 0, false, by omega, by omega, by omega, rfl, rfl, rfl, Or.inl ⟨rfl, rfl, rfl, rfl, rfl⟩, hG, hsz, HBK.out, HP1.out⟩
  case round =>
    obtain ⟨k, z, p, r, ta, tb, tc, bb, hk, hz, hp, rfl, rfl, rfl, hv, hgo, hws, hbk, hpx⟩ := hrel
    have HG : Hid (Goes (RR n O X) T (s.data.toList.drop f) k (p : Int) r z ans) := hgo
    have HB : Hid (wr.heap[w.heap.size + 1]? = some (.cells #[.int .i64 ta, .int .i64 tb, .int .i64 tc] 33 (0, 0))) := hbk
    have HPX : Hid (Px w w.heap.size O (.slice (some ⟨b, o, none⟩) n cap) (.slice (some ⟨b2, o2, none⟩) n cap2) n n L X T l wr) := hpx
    have HV : Hid (Tv f r z bb ta tb tc) := hv
    clear hgo hbk hpx hG hv HP1 HBK hsz
    obtain ⟨q, HQ⟩ : ∃ q, Hid (f + k = q) := ⟨_, (rfl : f + k = f + k)⟩
    rw [HQ.out] at hk ⊢
    by_cases hlt : q < s.size
    · have hk1 : (q : Int) < (s.size : Int) := by omega
      have hp1 : (p : Int) < (n : Int) := by omega
      have hp0 : (0 : Int) ≤ (p : Int) := by omega
      have hbr := byte_run s q hlt
      have HXX : Hid ((s.data.toList.drop f).drop k = s[q] :: (s.data.toList.drop f).drop (k + 1)) := by
        have h1 := HQ.out
        subst h1
        exact drop_from s f k hlt
      obtain ⟨x, HX⟩ : ∃ x, Hid (s[q] = x) := ⟨_, (rfl : s[q] = s[q])⟩
      rw [HX.out] at hbr HXX
      have hx : x.toNat < 256 := x.toNat_lt
      have hx1 : (x.toNat : Int) < 256 := by omega
      obtain ⟨h1, h2, h3⟩ := HCO.out p x.toNat hp hx
      have HN : Hid (tagOf T (X p (O x.toNat)) < 0 → Goes (RR n O X) T (s.data.toList.drop f) (k + 1) (X p (O x.toNat)) r z ans) := fun h => by
        have e : RR n O X p x.toNat = X p (O x.toNat) := by unfold RR; rw [if_pos ⟨hp, hx⟩]
        have := HG.out.none (T := T) HXX.out (by rw [e]; exact h)
        rwa [e] at this
      have HM : Hid (¬ tagOf T (X p (O x.toNat)) < 0 → Goes (RR n O X) T (s.data.toList.drop f) (k + 1) (X p (O x.toNat)) (tagOf T (X p (O x.toNat))) (k + 1) ans) := fun h => by
        have e : RR n O X p x.toNat = X p (O x.toNat) := by unfold RR; rw [if_pos ⟨hp, hx⟩]
        have := HG.out.some (T := T) HXX.out (by rw [e]; exact h)
        rwa [e] at this
      obtain ⟨a1, c1, cu, -, hu⟩ := HPX.out.next.cells p hp
      obtain ⟨bk, ok, rfl, -⟩ := hu.place (by omega)
      have cx := hu.cells (O x.toNat) h1
      have co := HPX.out.of x.toNat hx
      have ho := HO.out x.toNat
      obtain ⟨oj, HOJ⟩ : ∃ j, Hid (O x.toNat = j) := ⟨_, (rfl : O x.toNat = O x.toNat)⟩
      rw [HOJ.out] at h1 h2 h3 HN HM cx co ho
      obtain ⟨lk, HLK⟩ : ∃ j, Hid (L p = j) := ⟨_, (rfl : L p = L p)⟩
      rw [HLK.out] at h1 cu
      have h1' : (oj : Int) < (lk : Int) := by omega
      have d1 := HPX.out.c1
      have d2 := HPX.out.c2
      obtain ⟨y, HY⟩ : ∃ y, Hid (X p oj = y) := ⟨_, (rfl : X p oj = X p oj)⟩
      rw [HY.out] at h2 h3 HN HM cx
      clear hu
      by_cases hy : y = -1
      · subst hy
        have HE : Hid (ans = (r, z)) := (HN.out (by show (if (-1 : Int) < 0 then _ else _) < (0 : Int); rw [if_pos (by omega)]; omega)).over (Or.inr (by omega))
        have x0 := block_cell HB.out 0
        have x1 := block_cell HB.out 1
        have x2 := block_cell HB.out 2
        have f0 := block_free HB.out 0
        have f1 := block_free HB.out 1
        have f2 := block_free HB.out 2
        simp only [List.getElem?_toArray, List.getElem?_cons_zero, List.getElem?_cons_succ] at x0 x1 x2
        go_wp2_with (go_quiet (fail))
        have y0 := block_cell (three (w := wr.drewN nq) HB.out (.int .i64 ta) (.int .i64 tb) (.int .i64 tc)) 0
        have y1 := block_cell (three (w := wr.drewN nq) HB.out (.int .i64 ta) (.int .i64 tb) (.int .i64 tc)) 1
        have y2 := block_cell (three (w := wr.drewN nq) HB.out (.int .i64 ta) (.int .i64 tb) (.int .i64 tc)) 2
        simp only [List.getElem?_toArray, List.getElem?_cons_zero, List.getElem?_cons_succ] at y0 y1 y2
        exact bodyPost_ret (v := .tuple #[.agg #[.int .i64 ta, .int .i64 tb, .int .i64 tc], .bool bb]) (by simp [results, Try.results12, go_sem, y0, y1, y2]) rfl ⟨⟨ta, tb, tc, bb, rfl, by rw [HE.out]; exact HV.out⟩, ((HPX.out.drew nq).set HX0.out HT0.out (same_three (wr.drewN nq) (w.heap.size + 1) _ _ _) (by omega) (by omega)).below⟩
      · obtain ⟨t, rfl⟩ : ∃ t : Nat, y = (t : Int) := ⟨y.toNat, by omega⟩
        have htn : t < n := by omega
        have ht1 : (t : Int) < (n : Int) := by omega
        have ht0 : ((t : Int) == -1) = false := by simp
        have hTa : tagOf T (t : Int) = T t := by unfold tagOf; rw [if_neg (by omega)]; rfl
        have e2 := HPX.out.tags.cells t htn
        obtain ⟨g1, g2⟩ := HTG.out t htn
        rw [hTa] at HN HM
        clear hTa
        obtain ⟨u, HU⟩ : ∃ u, Hid (T t = u) := ⟨_, (rfl : T t = T t)⟩
        rw [HU.out] at e2 g1 g2 HN HM
        by_cases hu : u = -1
        · subst hu
          go_wp2_with (go_quiet (fail))
          go_roundw
          case rel => exact ⟨k + 1, z, t, r, ta, tb, tc, bb, by have := HQ.out; omega, by omega, htn, rfl, rfl, by rw [← Nat.add_assoc, HQ.out]; go_num, HV.out, HN.out (by omega), hws, HB.out, HPX.out.drew nq⟩
          case measure => simp [intOf]; omega
        · have hu1 : (u == -1) = false := by simp [hu]
          have x0 := block_cell HB.out 0
          have x1 := block_cell HB.out 1
          have x2 := block_cell HB.out 2
          have f0 := block_free HB.out 0
          have f1 := block_free HB.out 1
          have f2 := block_free HB.out 2
          simp only [List.getElem?_toArray, List.getElem?_cons_zero, List.getElem?_cons_succ] at x0 x1 x2
          go_wp2_with (go_quiet (fail))
          go_roundw
          case rel => exact ⟨k + 1, k + 1, t, u, u, (f : Int), (q : Int) + 1, true, by have := HQ.out; omega, by omega, htn, rfl, rfl, by rw [← Nat.add_assoc, HQ.out]; go_num, Or.inr ⟨by omega, rfl, rfl, rfl, by have := HQ.out; omega⟩, HM.out (by omega), by rw [(same_three (wr.drewN nq) _ _ _ _).1]; exact hws, three (w := wr.drewN nq) HB.out _ _ _, (HPX.out.drew nq).set HX0.out HT0.out (same_three (wr.drewN nq) (w.heap.size + 1) _ _ _) (by omega) (by omega)⟩
          case measure => simp [intOf]; omega
    · have hk1 : ¬ (q : Int) < (s.size : Int) := by omega
      have HE : Hid (ans = (r, z)) := HG.out.over (Or.inl (drop_from_all s f k (by have := HQ.out; omega)))
      have x0 := block_cell HB.out 0
      have x1 := block_cell HB.out 1
      have x2 := block_cell HB.out 2
      have f0 := block_free HB.out 0
      have f1 := block_free HB.out 1
      have f2 := block_free HB.out 2
      simp only [List.getElem?_toArray, List.getElem?_cons_zero, List.getElem?_cons_succ] at x0 x1 x2
      go_wp2_with fail
      have y0 := block_cell (three (w := wr) HB.out (.int .i64 ta) (.int .i64 tb) (.int .i64 tc)) 0
      have y1 := block_cell (three (w := wr) HB.out (.int .i64 ta) (.int .i64 tb) (.int .i64 tc)) 1
      have y2 := block_cell (three (w := wr) HB.out (.int .i64 ta) (.int .i64 tb) (.int .i64 tc)) 2
      simp only [List.getElem?_toArray, List.getElem?_cons_zero, List.getElem?_cons_succ] at y0 y1 y2
      exact bodyPost_ret (v := .tuple #[.agg #[.int .i64 ta, .int .i64 tb, .int .i64 tc], .bool bb]) (by simp [results, Try.results12, go_sem, y0, y1, y2]) rfl ⟨⟨ta, tb, tc, bb, rfl, by rw [HE.out]; exact HV.out⟩, (HPX.out.set HX0.out HT0.out (same_three (wr) (w.heap.size + 1) _ _ _) (by omega) (by omega)).below⟩
end Go.Proofs.Ytichmhlnjjejmaa
