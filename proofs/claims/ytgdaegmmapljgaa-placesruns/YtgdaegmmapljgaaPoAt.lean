/-
  The contract of the document's own answer pushref.At.
-/
import Derived.Test.YtgdaegmmapljgaaPoRules
namespace Go.Proofs.Ytgdaegmmapljgaa
open Go.RowKit
open Cls Po

/-- What lay in w lies there. -/
def Sb (w W : World) : Prop := Below w.heap.size w W
theorem Sb.next {w : World} (W W' : World) (h : Sb w W) (hb : Below W.heap.size W W') : Sb w W' := Below.trans h (hb.mono h.size)
theorem Sb.refl (w : World) : Sb w w := Below.refl _ _
theorem Sb.drew (w : World) : Sb w w.drew := ⟨rfl, rfl, rfl, Nat.le_refl _, fun _ _ => rfl⟩
theorem contains_below (v : Value) (l : List Int) (x : Int) (w : World) (h : Ints w v l) :
    Calls Try.prog 20 #[v, .int .i64 x] w fun e w' => e = .returned (.bool (l.contains x)) ∧ Below w.heap.size w w' :=
  (contains_any v l x w h).mono fun _ _ ⟨h1, h2⟩ => ⟨h1, by rw [h2]; exact Below.refl _ _⟩
/-- May that place come next? -/
def mayB (p : P) (i : Nat) (L : List Int) (x : Nat) : Bool := (decide (i = 0) && p.first.contains (x : Int)) || behindB p L x
def nextB (p : P) (i : Nat) (L : List Int) (b : UInt8) (x : Nat) : Bool := mayB p i L x && hasAt p b.toNat (x : Int)
theorem next_eq (p : P) (s : ByteArray) (i : Nat) (hi : i < s.size) : sel p.cls.length (nextB p i (atL p (s.data.toList.take i)) s[i]) = atL p (s.data.toList.take (i + 1)) := by
  rw [take_snoc s i hi, atL_snoc]
  by_cases h : i = 0
  · subst h
    simp only [List.take_zero, if_true]
    apply sel_congr
    intro x _
    simp [nextB, mayB, atL, behindB]
  · rw [if_neg (by intro e; have := congrArg List.length e; simp only [List.length_take, data_size, List.length_nil] at this; omega)]
    apply sel_congr
    intro x _
    unfold nextB mayB
    rw [decide_eq_false h]; simp

set_option maxHeartbeats 8000000 in
set_option maxRecDepth 20000 in
theorem at_any (v0 v1 v2 v3 v4 v5 : Value) (p : P) (s : ByteArray) (w : World) (hp : Pn w v0 v1 v2 v3 v4 v5 p) (hok : ok p = true) (hn : p.cls.length ≤ 200) (hs : s.size ≤ 200) :
    Calls Try.prog 16 #[.agg #[v0, v1, v2, v3, v4, v5], .string s] w fun e w' => ∃ v', e = .returned v' ∧ Ints w' v' (atL p s.data.toList) ∧ Below w.heap.size w w' := by
  obtain ⟨i0, hi, hz0, hz1, hz2⟩ := info_parts info3
  have HFL : Hid (p.follow.length = p.cls.length) := ((ok_iff p).1 hok).2.1
  have H0 : Hid (Px w w.heap.size v0 v1 v2 v3 v4 v5 p (w.alloc (Obj.cells #[v0, v1, v2, v3, v4, v5] 28))) := Px.box hp
  obtain ⟨a0, k0, rfl, hm0, -⟩ := hp.cls
  obtain ⟨a2, k2, rfl, hm2, -⟩ := hp.first
  obtain ⟨a3, k3, rfl, hm3, -⟩ := hp.follow
  clear hp hok
  go_enter Try.func16, Try.ntmps16
  go_wp2_with fail
  go_loopw [6, 5] (fun z v wr => ∃ i : Nat, i ≤ s.size ∧ z = .int .i64 (i : Int) ∧ Hid (Ints wr v (atL p (s.data.toList.take i)) ∧ Px w w.heap.size (.slice a0 p.cls.length k0) v1 (.slice a2 p.first.length k2) (.slice a3 p.follow.length k3) v4 v5 p wr)) (fun z _ _ => s.size - (intOf z).toNat)
  case atStart => exact ⟨0, by omega, rfl, ⟨_, _, rfl, by simp [atL], Or.inl rfl⟩, H0.out.next _ _ ((Below.refl _ _).alloc (Nat.le_refl _) _)⟩
  case round =>
    clear H0
    obtain ⟨i, hi1, rfl, HI⟩ := hrel
    by_cases hlt : i < s.size
    · have hii : (i : Int) < (s.size : Int) := by omega
      have HNX : Hid (sel p.cls.length (nextB p i (atL p (s.data.toList.take i)) s[i]) = atL p (s.data.toList.take (i + 1))) := next_eq p s i hlt
      have hin := atL_in p (s.data.toList.take i)
      obtain ⟨L, HL⟩ : ∃ L, Hid (atL p (s.data.toList.take i) = L) := ⟨_, (rfl : atL p (s.data.toList.take i) = atL p (s.data.toList.take i))⟩
      rw [HL.out] at HI HNX hin
      have HIN : Hid (∀ x ∈ L, 0 ≤ x ∧ x < (p.cls.length : Int)) := hin
      have HV : Hid (Ints wr u5 L) := HI.out.1
      obtain ⟨ao, cap, rfl, hml, hcs⟩ := HI.out.1
      have HCS : Hid (L = [] ∨ ∃ b o, ao = some ⟨b, o, none⟩ ∧ b < wr.heap.size ∧ ∀ i (hi : i < L.length), wr.cell? ⟨b, o + i, none⟩ = some (.int .i64 L[i])) := hcs
      have HPX := HI.out.2
      have HX : Hid (Px w w.heap.size (.slice a0 p.cls.length k0) v1 (.slice a2 p.first.length k2) (.slice a3 p.follow.length k3) v4 v5 p wr) := HPX
      have hbr := byte_run s i hlt
      obtain ⟨c, HC⟩ : ∃ c, Hid (s[i] = c) := ⟨_, (rfl : s[i] = s[i])⟩
      rw [HC.out] at hbr HNX
      have HBR : Hid (∀ w, (Instr.index 9 (.string s) (.int .i64 (i : Int))).run Try.prog w = .ok (.int .u8 (c.toNat : Int)) w) := hbr
      have hcw : IntKind.i64.wrap (c.toNat : Int) = (c.toNat : Int) := by
        have := c.toNat_lt
        unfold IntKind.wrap; simp [IntKind.bits, IntKind.signed]; omega
      have HCW : Hid (IntKind.i64.wrap (c.toNat : Int) = (c.toNat : Int)) := hcw
      clear HI hin hcs HPX hbr hcw
      obtain ⟨W0, rfl⟩ : ∃ W0, W0 = wr := ⟨_, rfl⟩
      go_wp2_with fail
      go_loopw [8, 7] (fun z v wx => ∃ x : Nat, x ≤ p.cls.length ∧ z = .int .i64 (x : Int) ∧ wx.ownsRow W0.heap.size 3 1 v (sel x (nextB p i L c)).length ((sel x (nextB p i L c)).map (Value.int .i64)) ∧ Below W0.heap.size W0 wx) (fun z _ _ => p.cls.length - (intOf z).toNat)
      case atStart => exact ⟨0, by omega, rfl, World.ownsRow_nil _ _ _ _, Below.refl _ _⟩
      case round =>
        obtain ⟨x, hx, rfl, hown, hbel⟩ := hrel
        have hsb := hbel.size
        have H1 : Hid (Px w w.heap.size (.slice a0 p.cls.length k0) v1 (.slice a2 p.first.length k2) (.slice a3 p.follow.length k3) v4 v5 p wr) := HX.out.next _ _ hbel
        have y0 := H1.out.c0
        have y2 := H1.out.c2
        have y3 := H1.out.c3
        by_cases hxt : x < p.cls.length
        · have hxi : (x : Int) < (p.cls.length : Int) := by omega
          have hsl := sel_length x (nextB p i L c)
          have HST : Hid (sel (x + 1) (nextB p i L c) = sel x (nextB p i L c) ++ (if nextB p i L c x = true then [(x : Int)] else [])) := sel_step _ _
          -- the first part
          obtain ⟨m0, HM0⟩ : ∃ m0, Hid ((decide (i = 0) && p.first.contains (x : Int)) = m0) := ⟨_, (rfl : _ = (decide (i = 0) && p.first.contains (x : Int)))⟩
          obtain ⟨WM, rfl⟩ : ∃ WM, WM = wr := ⟨_, rfl⟩
          by_cases hi0 : i = 0
          · have hm0 : Hid (p.first.contains (x : Int) = m0) := by show _ = _; rw [← HM0.out, decide_eq_true hi0]; simp
            have hb00 : ((i : Int) == 0) = true := by simp; exact hi0
            clear hi0
            have hcc := contains_below _ p.first (x : Int) WM H1.out.pn.first
            rw [hm0.out] at hcc
            go_wp2_with fail
            refine hcc.mono ?_
            rintro _ w1 ⟨rfl, hb1⟩
            have HSB : Hid (Sb WM w1) := hb1
            clear hb1 hcc
            go_wp2_with fail
            go_loopw [10, 9] (fun z bv wx => ∃ (j : Nat) (m : Bool), j ≤ L.length ∧ z = .int .i64 (j : Int) ∧ bv = .bool m ∧ Hid (m = (m0 || behindB p (L.take j) x)) ∧ Sb WM wx) (fun z _ _ => L.length - (intOf z).toNat)
            case atStart => exact ⟨0, m0, by omega, rfl, rfl, by show _ = _; simp [behindB], HSB.out⟩
            case round =>
              obtain ⟨W1, rfl⟩ : ∃ W1, W1 = wr := ⟨_, rfl⟩
              obtain ⟨j, m, hj, rfl, rfl, HM, hbel1⟩ := hrel
              clear y0 y2 y3
              have H2 : Hid (Px w w.heap.size (.slice a0 p.cls.length k0) v1 (.slice a2 p.first.length k2) (.slice a3 p.follow.length k3) v4 v5 p W1) := H1.out.next _ _ hbel1
              have B2 : Below W0.heap.size W0 W1 := hbel.trans (Below.mono hbel1 hsb)
              have q0 : ∀ p_1 : Kp (Sb W1), p_1.W.cell? ⟨w.heap.size, 0, none⟩ = some (.slice a0 p.cls.length k0) := fun p_1 => (Below.cell p_1.h (p := ⟨w.heap.size, 0, none⟩) H2.out.lt).trans H2.out.c0
              have q3 : ∀ p_1 : Kp (Sb W1), p_1.W.cell? ⟨w.heap.size, 3, none⟩ = some (.slice a3 p.follow.length k3) := fun p_1 => (Below.cell p_1.h (p := ⟨w.heap.size, 3, none⟩) H2.out.lt).trans H2.out.c3
              have hne : Nonempty (Kp (Sb W1)) := ⟨⟨_, Sb.drew W1⟩⟩
              by_cases hjt : j < L.length
              · have hji : (j : Int) < (L.length : Int) := by omega
                have HBS : Hid (behindB p (L.take (j + 1)) x = (behindB p (L.take j) x || (p.follow.getD L[j].toNat []).contains (x : Int))) := behindB_snoc p L j hjt x
                cases m with
                | true =>
                  go_wp2_with (go_quiet (fail))
                  go_roundw
                  case rel => exact ⟨j + 1, true, by omega, by go_num, rfl, by show _ = _; rw [HBS.out, ← Bool.or_assoc, ← HM.out]; rfl, below_drewN hbel1 nq⟩
                  case measure => simp [intOf]; omega
                | false =>
                  obtain ⟨bb, o, rfl, hb, hc⟩ := HCS.out.resolve_left (by intro e; subst e; simp at hjt)
                  have hz := HIN.out L[j] (List.getElem_mem hjt)
                  have qc : ∀ p_1 : Kp (Sb W1), p_1.W.cell? ⟨bb, o + j, none⟩ = some (.int .i64 L[j]) := fun p_1 => (Below.cell p_1.h (p := ⟨bb, o + j, none⟩) (Nat.lt_of_lt_of_le hb B2.size)).trans ((B2.cell (p := ⟨bb, o + j, none⟩) hb).trans (hc j hjt))
                  obtain ⟨z, HZ⟩ : ∃ z, Hid (L[j] = z) := ⟨_, (rfl : L[j] = L[j])⟩
                  rw [HZ.out] at hz HBS
                  simp only [HZ.out] at qc
                  obtain ⟨y, rfl⟩ : ∃ y : Nat, z = (y : Int) := ⟨z.toNat, by omega⟩
                  have hy : y < p.follow.length := by rw [HFL.out]; omega
                  have hyi : (y : Int) < (p.follow.length : Int) := by omega
                  obtain ⟨a3', k3', hv3, -, hcs3⟩ := H2.out.pn.follow
                  simp only [Value.slice.injEq] at hv3
                  obtain ⟨rfl, -, rfl⟩ := hv3
                  obtain ⟨b3, o3, rfl, hb3, hd⟩ := hcs3.resolve_left (by intro e; rw [e] at hy; simp at hy)
                  obtain ⟨u, d0, hu⟩ := hd y hy
                  have qd : ∀ p_1 : Kp (Sb W1), p_1.W.cell? ⟨b3, o3 + y, none⟩ = some u := fun p_1 => (Below.cell p_1.h (p := ⟨b3, o3 + y, none⟩) hb3).trans d0
                  have HBS2 : Hid (behindB p (L.take (j + 1)) x = (behindB p (L.take j) x || p.follow[y].contains (x : Int))) := by
                    show _ = _
                    rw [HBS.out, Int.toNat_natCast, List.getD_eq_getElem?_getD, List.getElem?_eq_getElem hy]; rfl
                  obtain ⟨r, HR⟩ : ∃ r, Hid (p.follow[y].contains (x : Int) = r) := ⟨_, (rfl : p.follow[y].contains (x : Int) = p.follow[y].contains (x : Int))⟩
                  have HCA : Hid (∀ p_1 : Kp (Sb W1), Calls Try.prog 20 #[u, .int .i64 (x : Int)] p_1.W fun e w'' => e = .returned (.bool r) ∧ ∃ q : Kp (Sb W1), w'' = q.W) := fun p_1 => by
                    have := contains_below u p.follow[y] (x : Int) p_1.W (hu.below p_1.h)
                    rw [HR.out] at this
                    exact Kp.calls p_1 Sb.next this
                  clear hc hd d0 hcs3 hu
                  go_wp2_with fail
                  refine wp_region_kept mixed (by kernel_rfl) (Sb.drew W1) ?_
                  repeat (go_big_quiet_step (first | (go_at_call 20; with_reducible exact HCA.out _)))
                  refine wpQuiet_nil ?_
                  intro W2 hw2
                  obtain ⟨⟨W2, HS2⟩, rfl⟩ := hw2
                  have HBx : Hid (Sb WM W2) := Sb.next _ _ hbel1 HS2
                  clear HS2 hne q0 q3 qc qd
                  go_wp2_with fail
                  go_roundw
                  case rel => exact ⟨j + 1, r, by omega, by go_num, rfl, by show _ = _; rw [HBS2.out, HR.out, ← Bool.or_assoc, ← HM.out]; rfl, HBx.out⟩
                  case measure => simp [intOf]; omega
              · have HMB : Hid (mayB p i L x = m) := by
                  show _ = _
                  rw [HM.out, show L.take j = L from List.take_of_length_le (Nat.le_of_not_lt hjt), ← HM0.out]; rfl
                cases m with
                | false =>
                  have HS : Hid (sel (x + 1) (nextB p i L c) = sel x (nextB p i L c)) := by show _ = _; rw [HST.out, if_neg (by unfold nextB; rw [HMB.out]; simp)]; simp
                  have R1 := own_below hown hbel1
                  go_wp2_with (go_quiet (fail))
                  go_roundw
                  case rel => exact ⟨x + 1, by omega, by go_num, by rw [HS.out]; exact own_below R1 ⟨rfl, rfl, rfl, Nat.le_refl _, fun _ _ => rfl⟩, below_drewN B2 nq⟩
                  case measure => simp [intOf]; omega
                | true =>
                  obtain ⟨a0', k0', hv0, -, hcs0⟩ := H2.out.pn.cls
                  simp only [Value.slice.injEq] at hv0
                  obtain ⟨rfl, -, rfl⟩ := hv0
                  obtain ⟨b1, o1, rfl, hb1, hd⟩ := hcs0.resolve_left (by intro e; rw [e] at hxt; simp at hxt)
                  have HNB : Hid (nextB p i L c x = mem p.cls[x] c.toNat) := by
                    show _ = _
                    unfold nextB hasAt; rw [HMB.out, Int.toNat_natCast, List.getElem?_eq_getElem hxt]; simp
                  obtain ⟨cc, HCC⟩ : ∃ cc, Hid (p.cls[x] = cc) := ⟨_, (rfl : p.cls[x] = p.cls[x])⟩
                  rw [HCC.out] at HNB
                  have d : ∀ (p_1 : Kp (Sb W1)) j, j < 4 → p_1.W.cell? ⟨b1, o1 + x * 4 + j, none⟩ = some (.int .u64 ((wd cc j).toNat : Int)) := fun p_1 j hj => by
                    rw [← HCC.out]; exact (Below.cell p_1.h (p := ⟨b1, o1 + x * 4 + j, none⟩) hb1).trans (hd x hxt j hj)
                  have d0 : ∀ p_1 : Kp (Sb W1), p_1.W.cell? ⟨b1, o1 + x * 4, none⟩ = some (.int .u64 (cc.1.toNat : Int)) := fun p_1 => d p_1 0 (by omega)
                  have d1 : ∀ p_1 : Kp (Sb W1), p_1.W.cell? ⟨b1, o1 + x * 4 + 1, none⟩ = some (.int .u64 (cc.2.1.toNat : Int)) := fun p_1 => d p_1 1 (by omega)
                  have d2 : ∀ p_1 : Kp (Sb W1), p_1.W.cell? ⟨b1, o1 + x * 4 + 2, none⟩ = some (.int .u64 (cc.2.2.1.toNat : Int)) := fun p_1 => d p_1 2 (by omega)
                  have d3 : ∀ p_1 : Kp (Sb W1), p_1.W.cell? ⟨b1, o1 + x * 4 + 3, none⟩ = some (.int .u64 (cc.2.2.2.toNat : Int)) := fun p_1 => d p_1 3 (by omega)
                  have hcn : c.toNat < 256 := c.toNat_lt
                  have hbr := HBR.out
                  obtain ⟨r, HR⟩ : ∃ r, Hid (mem cc c.toNat = r) := ⟨_, (rfl : mem cc c.toNat = mem cc c.toNat)⟩
                  have HCA : Hid (∀ (p_1 : Kp (Sb W1)) (z : Int), z = (c.toNat : Int) → Calls Try.prog 42 #[.agg #[.int .u64 (cc.1.toNat : Int), .int .u64 (cc.2.1.toNat : Int), .int .u64 (cc.2.2.1.toNat : Int), .int .u64 (cc.2.2.2.toNat : Int)], .int .i64 z] p_1.W fun e w'' => e = .returned (.bool r) ∧ ∃ q : Kp (Sb W1), w'' = q.W) := fun p_1 z hz => by
                    have := rhas_any cc z c.toNat hz hcn p_1.W
                    rw [HR.out] at this
                    exact Kp.calls_lays p_1 Sb.next this
                  have hcw := HCW.out
                  clear hd hcs0 d
                  go_wp2_with fail
                  refine wp_region_kept mixed (by kernel_rfl) (Sb.drew W1) ?_
                  repeat (go_big_quiet_step (first | (go_at_call 42; exact HCA.out _ _ rfl)))
                  refine wpQuiet_nil ?_
                  intro W2 hw2
                  obtain ⟨⟨W2, HS2⟩, rfl⟩ := hw2
                  have HBx : Hid (Sb WM W2) := Sb.next _ _ hbel1 HS2
                  have hown2 := own_below hown HBx.out
                  have hbel2 : Below W0.heap.size W0 W2 := hbel.trans (Below.mono HBx.out hsb)
                  have hsb2 := hbel2.size
                  clear HS2 hne q0 q3 d0 d1 d2 d3 hbr hcw
                  cases r with
                  | true =>
                    have HS : Hid (sel (x + 1) (nextB p i L c) = sel x (nextB p i L c) ++ [(x : Int)]) := by show _ = _; rw [HST.out, if_pos (by rw [HNB.out, HR.out])]
                    go_wp2_with (at_builtin; refine wpList_append_own _ rfl _ _ 24 rfl W0.heap.size 3 i0 (.int .i64 0) 1 8 Try.underlying24 hi hz0 hz1 hz2 rfl (by decide) _ _ _ rfl (hown2.alloc _) ⟨W2.heap.size, 0, none⟩ 1 1 [.int .i64 (x : Int)] rfl rfl (World.news_of_block (t := 3) (fr := (0, 0)) (heap_alloc_new W2 _)) (by simp [Value.oneCell']) (by unfold maxLen; omega) (by omega) (by simp; omega) ?_)
                    intro v' w2 hown' hgrow _
                    have R1 : w2.ownsRow W0.heap.size 3 1 v' (sel (x + 1) (nextB p i L c)).length ((sel (x + 1) (nextB p i L c)).map (Value.int .i64)) := by rw [HS.out, List.length_append, List.map_append]; exact hown'
                    have R2 : Below W0.heap.size W0 w2 := Below.grown (hbel2.alloc hsb2 _) hgrow (by simp; omega) (own_ge hown2)
                    clear hown' hgrow hown2 hbel2
                    go_wp2_with fail
                    go_roundw
                    case rel => exact ⟨x + 1, by omega, by go_num, R1, R2⟩
                    case measure => simp [intOf]; omega
                  | false =>
                    have HS : Hid (sel (x + 1) (nextB p i L c) = sel x (nextB p i L c)) := by show _ = _; rw [HST.out, if_neg (by rw [HNB.out, HR.out]; simp)]; simp
                    go_wp2_with fail
                    go_roundw
                    case rel => exact ⟨x + 1, by omega, by go_num, by rw [HS.out]; exact hown2, hbel2⟩
                    case measure => simp [intOf]; omega
          · have hb00 : ((i : Int) == 0) = false := by simp; omega
            obtain rfl : m0 = false := by rw [← HM0.out]; simp [hi0]
            go_wp2_with fail
            go_loopw [10, 9] (fun z bv wx => ∃ (j : Nat) (m : Bool), j ≤ L.length ∧ z = .int .i64 (j : Int) ∧ bv = .bool m ∧ Hid (m = (false || behindB p (L.take j) x)) ∧ Sb WM wx) (fun z _ _ => L.length - (intOf z).toNat)
            case atStart => exact ⟨0, false, by omega, rfl, rfl, by show _ = _; simp [behindB], Sb.refl _⟩
            case round =>
              obtain ⟨W1, rfl⟩ : ∃ W1, W1 = wr := ⟨_, rfl⟩
              obtain ⟨j, m, hj, rfl, rfl, HM, hbel1⟩ := hrel
              clear y0 y2 y3
              have H2 : Hid (Px w w.heap.size (.slice a0 p.cls.length k0) v1 (.slice a2 p.first.length k2) (.slice a3 p.follow.length k3) v4 v5 p W1) := H1.out.next _ _ hbel1
              have B2 : Below W0.heap.size W0 W1 := hbel.trans (Below.mono hbel1 hsb)
              have q0 : ∀ p_1 : Kp (Sb W1), p_1.W.cell? ⟨w.heap.size, 0, none⟩ = some (.slice a0 p.cls.length k0) := fun p_1 => (Below.cell p_1.h (p := ⟨w.heap.size, 0, none⟩) H2.out.lt).trans H2.out.c0
              have q3 : ∀ p_1 : Kp (Sb W1), p_1.W.cell? ⟨w.heap.size, 3, none⟩ = some (.slice a3 p.follow.length k3) := fun p_1 => (Below.cell p_1.h (p := ⟨w.heap.size, 3, none⟩) H2.out.lt).trans H2.out.c3
              have hne : Nonempty (Kp (Sb W1)) := ⟨⟨_, Sb.drew W1⟩⟩
              by_cases hjt : j < L.length
              · have hji : (j : Int) < (L.length : Int) := by omega
                have HBS : Hid (behindB p (L.take (j + 1)) x = (behindB p (L.take j) x || (p.follow.getD L[j].toNat []).contains (x : Int))) := behindB_snoc p L j hjt x
                cases m with
                | true =>
                  go_wp2_with (go_quiet (fail))
                  go_roundw
                  case rel => exact ⟨j + 1, true, by omega, by go_num, rfl, by show _ = _; rw [HBS.out, ← Bool.or_assoc, ← HM.out]; rfl, below_drewN hbel1 nq⟩
                  case measure => simp [intOf]; omega
                | false =>
                  obtain ⟨bb, o, rfl, hb, hc⟩ := HCS.out.resolve_left (by intro e; subst e; simp at hjt)
                  have hz := HIN.out L[j] (List.getElem_mem hjt)
                  have qc : ∀ p_1 : Kp (Sb W1), p_1.W.cell? ⟨bb, o + j, none⟩ = some (.int .i64 L[j]) := fun p_1 => (Below.cell p_1.h (p := ⟨bb, o + j, none⟩) (Nat.lt_of_lt_of_le hb B2.size)).trans ((B2.cell (p := ⟨bb, o + j, none⟩) hb).trans (hc j hjt))
                  obtain ⟨z, HZ⟩ : ∃ z, Hid (L[j] = z) := ⟨_, (rfl : L[j] = L[j])⟩
                  rw [HZ.out] at hz HBS
                  simp only [HZ.out] at qc
                  obtain ⟨y, rfl⟩ : ∃ y : Nat, z = (y : Int) := ⟨z.toNat, by omega⟩
                  have hy : y < p.follow.length := by rw [HFL.out]; omega
                  have hyi : (y : Int) < (p.follow.length : Int) := by omega
                  obtain ⟨a3', k3', hv3, -, hcs3⟩ := H2.out.pn.follow
                  simp only [Value.slice.injEq] at hv3
                  obtain ⟨rfl, -, rfl⟩ := hv3
                  obtain ⟨b3, o3, rfl, hb3, hd⟩ := hcs3.resolve_left (by intro e; rw [e] at hy; simp at hy)
                  obtain ⟨u, d0, hu⟩ := hd y hy
                  have qd : ∀ p_1 : Kp (Sb W1), p_1.W.cell? ⟨b3, o3 + y, none⟩ = some u := fun p_1 => (Below.cell p_1.h (p := ⟨b3, o3 + y, none⟩) hb3).trans d0
                  have HBS2 : Hid (behindB p (L.take (j + 1)) x = (behindB p (L.take j) x || p.follow[y].contains (x : Int))) := by
                    show _ = _
                    rw [HBS.out, Int.toNat_natCast, List.getD_eq_getElem?_getD, List.getElem?_eq_getElem hy]; rfl
                  obtain ⟨r, HR⟩ : ∃ r, Hid (p.follow[y].contains (x : Int) = r) := ⟨_, (rfl : p.follow[y].contains (x : Int) = p.follow[y].contains (x : Int))⟩
                  have HCA : Hid (∀ p_1 : Kp (Sb W1), Calls Try.prog 20 #[u, .int .i64 (x : Int)] p_1.W fun e w'' => e = .returned (.bool r) ∧ ∃ q : Kp (Sb W1), w'' = q.W) := fun p_1 => by
                    have := contains_below u p.follow[y] (x : Int) p_1.W (hu.below p_1.h)
                    rw [HR.out] at this
                    exact Kp.calls p_1 Sb.next this
                  clear hc hd d0 hcs3 hu
                  go_wp2_with fail
                  refine wp_region_kept mixed (by kernel_rfl) (Sb.drew W1) ?_
                  repeat (go_big_quiet_step (first | (go_at_call 20; with_reducible exact HCA.out _)))
                  refine wpQuiet_nil ?_
                  intro W2 hw2
                  obtain ⟨⟨W2, HS2⟩, rfl⟩ := hw2
                  have HBx : Hid (Sb WM W2) := Sb.next _ _ hbel1 HS2
                  clear HS2 hne q0 q3 qc qd
                  go_wp2_with fail
                  go_roundw
                  case rel => exact ⟨j + 1, r, by omega, by go_num, rfl, by show _ = _; rw [HBS2.out, HR.out, ← Bool.or_assoc, ← HM.out]; rfl, HBx.out⟩
                  case measure => simp [intOf]; omega
              · have HMB : Hid (mayB p i L x = m) := by
                  show _ = _
                  rw [HM.out, show L.take j = L from List.take_of_length_le (Nat.le_of_not_lt hjt), ← HM0.out]; rfl
                cases m with
                | false =>
                  have HS : Hid (sel (x + 1) (nextB p i L c) = sel x (nextB p i L c)) := by show _ = _; rw [HST.out, if_neg (by unfold nextB; rw [HMB.out]; simp)]; simp
                  have R1 := own_below hown hbel1
                  go_wp2_with (go_quiet (fail))
                  go_roundw
                  case rel => exact ⟨x + 1, by omega, by go_num, by rw [HS.out]; exact own_below R1 ⟨rfl, rfl, rfl, Nat.le_refl _, fun _ _ => rfl⟩, below_drewN B2 nq⟩
                  case measure => simp [intOf]; omega
                | true =>
                  obtain ⟨a0', k0', hv0, -, hcs0⟩ := H2.out.pn.cls
                  simp only [Value.slice.injEq] at hv0
                  obtain ⟨rfl, -, rfl⟩ := hv0
                  obtain ⟨b1, o1, rfl, hb1, hd⟩ := hcs0.resolve_left (by intro e; rw [e] at hxt; simp at hxt)
                  have HNB : Hid (nextB p i L c x = mem p.cls[x] c.toNat) := by
                    show _ = _
                    unfold nextB hasAt; rw [HMB.out, Int.toNat_natCast, List.getElem?_eq_getElem hxt]; simp
                  obtain ⟨cc, HCC⟩ : ∃ cc, Hid (p.cls[x] = cc) := ⟨_, (rfl : p.cls[x] = p.cls[x])⟩
                  rw [HCC.out] at HNB
                  have d : ∀ (p_1 : Kp (Sb W1)) j, j < 4 → p_1.W.cell? ⟨b1, o1 + x * 4 + j, none⟩ = some (.int .u64 ((wd cc j).toNat : Int)) := fun p_1 j hj => by
                    rw [← HCC.out]; exact (Below.cell p_1.h (p := ⟨b1, o1 + x * 4 + j, none⟩) hb1).trans (hd x hxt j hj)
                  have d0 : ∀ p_1 : Kp (Sb W1), p_1.W.cell? ⟨b1, o1 + x * 4, none⟩ = some (.int .u64 (cc.1.toNat : Int)) := fun p_1 => d p_1 0 (by omega)
                  have d1 : ∀ p_1 : Kp (Sb W1), p_1.W.cell? ⟨b1, o1 + x * 4 + 1, none⟩ = some (.int .u64 (cc.2.1.toNat : Int)) := fun p_1 => d p_1 1 (by omega)
                  have d2 : ∀ p_1 : Kp (Sb W1), p_1.W.cell? ⟨b1, o1 + x * 4 + 2, none⟩ = some (.int .u64 (cc.2.2.1.toNat : Int)) := fun p_1 => d p_1 2 (by omega)
                  have d3 : ∀ p_1 : Kp (Sb W1), p_1.W.cell? ⟨b1, o1 + x * 4 + 3, none⟩ = some (.int .u64 (cc.2.2.2.toNat : Int)) := fun p_1 => d p_1 3 (by omega)
                  have hcn : c.toNat < 256 := c.toNat_lt
                  have hbr := HBR.out
                  obtain ⟨r, HR⟩ : ∃ r, Hid (mem cc c.toNat = r) := ⟨_, (rfl : mem cc c.toNat = mem cc c.toNat)⟩
                  have HCA : Hid (∀ (p_1 : Kp (Sb W1)) (z : Int), z = (c.toNat : Int) → Calls Try.prog 42 #[.agg #[.int .u64 (cc.1.toNat : Int), .int .u64 (cc.2.1.toNat : Int), .int .u64 (cc.2.2.1.toNat : Int), .int .u64 (cc.2.2.2.toNat : Int)], .int .i64 z] p_1.W fun e w'' => e = .returned (.bool r) ∧ ∃ q : Kp (Sb W1), w'' = q.W) := fun p_1 z hz => by
                    have := rhas_any cc z c.toNat hz hcn p_1.W
                    rw [HR.out] at this
                    exact Kp.calls_lays p_1 Sb.next this
                  have hcw := HCW.out
                  clear hd hcs0 d
                  go_wp2_with fail
                  refine wp_region_kept mixed (by kernel_rfl) (Sb.drew W1) ?_
                  repeat (go_big_quiet_step (first | (go_at_call 42; exact HCA.out _ _ rfl)))
                  refine wpQuiet_nil ?_
                  intro W2 hw2
                  obtain ⟨⟨W2, HS2⟩, rfl⟩ := hw2
                  have HBx : Hid (Sb WM W2) := Sb.next _ _ hbel1 HS2
                  have hown2 := own_below hown HBx.out
                  have hbel2 : Below W0.heap.size W0 W2 := hbel.trans (Below.mono HBx.out hsb)
                  have hsb2 := hbel2.size
                  clear HS2 hne q0 q3 d0 d1 d2 d3 hbr hcw
                  cases r with
                  | true =>
                    have HS : Hid (sel (x + 1) (nextB p i L c) = sel x (nextB p i L c) ++ [(x : Int)]) := by show _ = _; rw [HST.out, if_pos (by rw [HNB.out, HR.out])]
                    go_wp2_with (at_builtin; refine wpList_append_own _ rfl _ _ 24 rfl W0.heap.size 3 i0 (.int .i64 0) 1 8 Try.underlying24 hi hz0 hz1 hz2 rfl (by decide) _ _ _ rfl (hown2.alloc _) ⟨W2.heap.size, 0, none⟩ 1 1 [.int .i64 (x : Int)] rfl rfl (World.news_of_block (t := 3) (fr := (0, 0)) (heap_alloc_new W2 _)) (by simp [Value.oneCell']) (by unfold maxLen; omega) (by omega) (by simp; omega) ?_)
                    intro v' w2 hown' hgrow _
                    have R1 : w2.ownsRow W0.heap.size 3 1 v' (sel (x + 1) (nextB p i L c)).length ((sel (x + 1) (nextB p i L c)).map (Value.int .i64)) := by rw [HS.out, List.length_append, List.map_append]; exact hown'
                    have R2 : Below W0.heap.size W0 w2 := Below.grown (hbel2.alloc hsb2 _) hgrow (by simp; omega) (own_ge hown2)
                    clear hown' hgrow hown2 hbel2
                    go_wp2_with fail
                    go_roundw
                    case rel => exact ⟨x + 1, by omega, by go_num, R1, R2⟩
                    case measure => simp [intOf]; omega
                  | false =>
                    have HS : Hid (sel (x + 1) (nextB p i L c) = sel x (nextB p i L c)) := by show _ = _; rw [HST.out, if_neg (by rw [HNB.out, HR.out]; simp)]; simp
                    go_wp2_with fail
                    go_roundw
                    case rel => exact ⟨x + 1, by omega, by go_num, by rw [HS.out]; exact hown2, hbel2⟩
                    case measure => simp [intOf]; omega
        · obtain rfl : x = p.cls.length := by omega
          have HIx : Hid (Ints wr u7 (atL p (s.data.toList.take (i + 1)))) := by rw [← HNX.out]; exact ints_of_own hown (by have := sel_length p.cls.length (nextB p i L c); omega)
          clear hown
          go_wp2_with fail
          go_roundw
          case rel => exact ⟨i + 1, by omega, by go_num, HIx.out, H1.out⟩
          case measure => simp [intOf]; omega
    · have HI3 : Hid (Ints wr u5 (atL p s.data.toList) ∧ Below w.heap.size w wr) := by
        have := HI.out
        rw [take_all s i (by omega)] at this
        exact ⟨this.1, this.2.below⟩
      clear HI
      go_wp2_with fail
      go_ret
      exact ⟨_, rfl, HI3.out.1, HI3.out.2⟩
end Go.Proofs.Ytgdaegmmapljgaa
