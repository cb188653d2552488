/-
  The contract of the document's own answer: pushref.RightPacked.
-/
import Derived.Test.YtcdnbkfjiigdmaaPkCheck
namespace Go.Proofs.Ytcdnbkfjiigdmaa
open Go.RowKit
open Dfa

theorem Nx.cells {w : World} {b o n cap : Nat} {L : Nat → Nat} {X : Nat → Nat → Int} (h : Nx w (.slice (some ⟨b, o, none⟩) n cap) n L X) (i : Nat) (hi : i < n) :
    ∃ a c, w.cell? ⟨b, o + i, none⟩ = some (.slice a (L i) c) ∧ L i ≤ 9223372036854775807 ∧ Ts w (.slice a (L i) c) (L i) (X i) := by
  obtain ⟨ao, cap, e, -, h | ⟨b', o', e', -, hc⟩⟩ := h
  · omega
  · subst e'
    simp at e
    obtain ⟨⟨rfl, rfl⟩, -⟩ := e
    obtain ⟨u, g, hu⟩ := hc i hi
    have hu' := hu
    obtain ⟨a, c, rfl, hl, -⟩ := hu
    exact ⟨a, c, g, hl, hu'⟩
theorem Ts.cells {w : World} {b o n cap : Nat} {T : Nat → Int} (h : Ts w (.slice (some ⟨b, o, none⟩) n cap) n T) (i : Nat) (hi : i < n) : w.cell? ⟨b, o + i, none⟩ = some (.int .i64 (T i)) := by
  obtain ⟨ao, cap, e, -, -, h | ⟨b', o', e', -, hc⟩⟩ := h
  · omega
  · subst e'
    simp at e
    obtain ⟨⟨rfl, rfl⟩, -⟩ := e
    exact hc i hi
theorem Ts.place {w : World} {a : Option Addr} {n cap : Nat} {T : Nat → Int} (h : Ts w (.slice a n cap) n T) (h0 : 0 < n) : ∃ b o, a = some ⟨b, o, none⟩ ∧ b < w.heap.size := by
  obtain ⟨ao, cap, e, -, -, h | ⟨b', o', e', hb, hc⟩⟩ := h
  · omega
  · simp at e
    exact ⟨b', o', e.1.trans e', hb⟩
theorem Nx.place {w : World} {a : Option Addr} {n cap : Nat} {L : Nat → Nat} {X : Nat → Nat → Int} (h : Nx w (.slice a n cap) n L X) (h0 : 0 < n) : ∃ b o, a = some ⟨b, o, none⟩ ∧ b < w.heap.size := by
  obtain ⟨ao, cap, e, -, h | ⟨b', o', e', hb, hc⟩⟩ := h
  · omega
  · simp at e
    exact ⟨b', o', e.1.trans e', hb⟩
theorem Px.drew {w0 : World} {g : Nat} {O : Nat → Nat} {nv tv : Value} {n m : Nat} {L : Nat → Nat} {X : Nat → Nat → Int} {T : Nat → Int} {l : List Value} {w : World} (h : Px w0 g O nv tv n m L X T l w) (k : Nat) : Px w0 g O nv tv n m L X T l (w.drewN k) :=
  h.step (below_drewN (Below.refl _ _) k)

set_option maxHeartbeats 4000000 in
set_option maxRecDepth 20000 in
theorem rightP_any (O : Nat → Nat) (nv tv : Value) (n m : Nat) (L : Nat → Nat) (X : Nat → Nat → Int) (T : Nat → Int) (w : World) (hO : ∀ j, O j < 256) (hx : Nx w nv n L X) (ht : Ts w tv m T) :
    Calls Try.prog 10 #[.agg (pl O nv tv).toArray] w fun e w' => e = .returned (.int .i64 (chkP n m O L X T)) ∧ Below w.heap.size w w' := by
  have HO : Hid (∀ j, O j < 256) := hO
  obtain ⟨l, HLL⟩ : ∃ l, Hid (pl O nv tv = l) := ⟨_, (rfl : pl O nv tv = pl O nv tv)⟩
  have HP : Hid (Px w w.heap.size O nv tv n m L X T l (w.alloc (Obj.cells l.toArray 26))) := Px.box HLL.out hx ht
  rw [HLL.out]
  clear HLL
  obtain ⟨ao, cap, rfl, hn, -⟩ := hx
  obtain ⟨ao', cap', rfl, hm, hwf', -⟩ := ht
  clear hwf' hO
  have c1 := HP.out.c1
  have c2 := HP.out.c2
  go_enter Try.func10, Try.ntmps10
  by_cases h1 : 200 < n
  · have h1' : (200 : Int) < (n : Int) := by omega
    go_wp2_with fail
    go_ret
    exact ⟨by unfold chkP; rw [if_pos h1]; rfl, HP.out.below⟩
  · by_cases h2 : n = 0 ∨ m ≠ n
    · have E : Hid (chkP n m O L X T = 1) := by show _ = _; unfold chkP; rw [if_neg h1, if_pos h2]
      by_cases h3 : n = 0
      · subst h3
        go_wp2_with fail
        go_ret
        exact ⟨by rw [E.out]; rfl, HP.out.below⟩
      · have h4 : m ≠ n := by omega
        have h5 : ((m : Int) != (n : Int)) = true := by simp; omega
        have h6 : ((n : Int) == 0) = false := by simp; omega
        go_wp2_with fail
        go_ret
        exact ⟨by rw [E.out]; rfl, HP.out.below⟩
    · obtain rfl : m = n := by omega
      have h6 : ((m : Int) == 0) = false := by simp; omega
      have h7 : ((m : Int) != (m : Int)) = false := by simp
      have hm0 : 0 < m := by omega
      have hm1 : (0 : Int) < (m : Int) := by omega
      obtain ⟨b, o, rfl, -⟩ := HP.out.next.place hm0
      obtain ⟨b', o', rfl, -⟩ := HP.out.tags.place hm0
      have E : Hid (chkP m m O L X T = if colsOk m O L = true ∧ statesOk m L X = true ∧ upOk m T 19 = true then 0 else 1) := by show _ = _; unfold chkP; rw [if_neg h1, if_neg h2]
      have EB : Hid (¬ (colsOk m O L = true ∧ statesOk m L X = true ∧ upOk m T 19 = true) → chkP m m O L X T = 1) := fun h => by rw [E.out, if_neg h]
      obtain ⟨a0, cp0, c0, hl0, -⟩ := HP.out.next.cells 0 hm0
      rw [Nat.add_zero] at c0
      obtain ⟨l0, HL⟩ : ∃ l, Hid (L 0 = l) := ⟨_, (rfl : L 0 = L 0)⟩
      rw [HL.out] at c0 hl0
      clear h2
      by_cases e0 : l0 = 0
      · subst e0
        have F : Hid (chkP m m O L X T = 1) := EB.out fun h => by have := (cols_at h.1).2.2 0 (by omega); have := HL.out; omega
        go_wp2_with fail
        go_ret
        exact ⟨by rw [F.out]; rfl, HP.out.below⟩
      · have e0' : ((l0 : Int) == 0) = false := by simp; exact e0
        by_cases e1 : 256 < l0
        · have e1' : (256 : Int) < (l0 : Int) := by omega
          have F : Hid (chkP m m O L X T = 1) := EB.out fun h => by have := (cols_at h.1).2.1; have := HL.out; omega
          go_wp2_with fail
          go_ret
          exact ⟨by rw [F.out]; rfl, HP.out.below⟩
        · have e1' : ¬ ((256 : Int) < (l0 : Int)) := by omega
          go_wp2_with fail
          clear c0 c1 c2
          go_loopw [3] (fun i wr => ∃ k : Nat, k ≤ m ∧ i = .int .i64 (k : Int) ∧ Hid (∀ i, i < k → decide (L i = L 0) = true) ∧ Hid (∀ i, i < k → (decide (-1 ≤ T i) && decide (T i ≤ 19)) = true) ∧ Hid (∀ i, i < k → upOk (L i) (X i) ((m : Int) - 1) = true) ∧ Hid (Px w w.heap.size O (.slice (some ⟨b, o, none⟩) m cap) (.slice (some ⟨b', o', none⟩) m cap') m m L X T l wr)) (fun i _ => m - (intOf i).toNat)
          case atStart => exact ⟨0, by omega, rfl, fun i hi => by omega, fun i hi => by omega, fun i hi => by omega, HP⟩
          case round =>
            obtain ⟨k, hk, rfl, HA, HT, HX, HPk⟩ := hrel
            have c1 := HPk.out.c1
            have c2 := HPk.out.c2
            obtain ⟨a0, cp0, c0, -, -⟩ := HPk.out.next.cells 0 hm0
            rw [Nat.add_zero, HL.out] at c0
            by_cases hlt : k < m
            · obtain ⟨ak, cpk, ck, hlk, -⟩ := HPk.out.next.cells k hlt
              have ct := HPk.out.tags.cells k hlt
              have hk0 : (0 : Int) ≤ (k : Int) := by omega
              have hk1 : (k : Int) < (m : Int) := by omega
              obtain ⟨lk, HLk⟩ : ∃ l, Hid (L k = l) := ⟨_, (rfl : L k = L k)⟩
              obtain ⟨t, HTk⟩ : ∃ t, Hid (T k = t) := ⟨_, (rfl : T k = T k)⟩
              rw [HLk.out] at ck hlk
              rw [HTk.out] at ct
              by_cases el : lk = l0
              · have EL : Hid (lk = l0) := el
                subst el
                have hbb : ((lk : Int) != (lk : Int)) = false := by simp
                by_cases t1 : t < -1
                · have F : Hid (chkP m m O L X T = 1) := EB.out fun h => by have := up_at h.2.2 k hlt; rw [HTk.out] at this; omega
                  go_wp2_with (go_quiet (fail))
                  go_ret
                  exact ⟨by rw [F.out]; rfl, (HPk.out.drew _).below⟩
                · by_cases t2 : 19 < t
                  · have F : Hid (chkP m m O L X T = 1) := EB.out fun h => by have := up_at h.2.2 k hlt; rw [HTk.out] at this; omega
                    go_wp2_with (go_quiet (fail))
                    go_ret
                    exact ⟨by rw [F.out]; rfl, (HPk.out.drew _).below⟩
                  · go_wp2_with (go_quiet (fail))
                    clear c0 c1 c2 ck ct
                    go_loopw [4] (fun i wr => ∃ j : Nat, j ≤ lk ∧ i = .int .i64 (j : Int) ∧ Hid (∀ i, i < j → (decide (-1 ≤ X k i) && decide (X k i ≤ (m : Int) - 1)) = true) ∧ Hid (Px w w.heap.size O (.slice (some ⟨b, o, none⟩) m cap) (.slice (some ⟨b', o', none⟩) m cap') m m L X T l wr)) (fun i _ => lk - (intOf i).toNat)
                    case atStart => exact ⟨0, by omega, rfl, fun i hi => by omega, HPk.out.drew _⟩
                    case round =>
                      obtain ⟨j, hj, rfl, HB, HPj⟩ := hrel
                      have c1 := HPj.out.c1
                      have c2 := HPj.out.c2
                      obtain ⟨ak, cpk, ck, -, hts⟩ := HPj.out.next.cells k hlt
                      rw [HLk.out] at ck hts
                      by_cases hjt : j < lk
                      · obtain ⟨bk, ok, rfl, -⟩ := hts.place (by omega)
                        have cx := hts.cells j hjt
                        have hj0 : (0 : Int) ≤ (j : Int) := by omega
                        have hj1 : (j : Int) < (lk : Int) := by omega
                        obtain ⟨z, HZ⟩ : ∃ z, Hid (X k j = z) := ⟨_, (rfl : X k j = X k j)⟩
                        rw [HZ.out] at cx
                        clear hts
                        by_cases z1 : z < -1
                        · have F : Hid (chkP m m O L X T = 1) := EB.out fun h => by have := states_at h.2.1 k j hlt (by rw [HLk.out]; exact hjt); rw [HZ.out] at this; omega
                          go_wp2_with (go_quiet (fail))
                          go_ret
                          exact ⟨by rw [F.out]; rfl, (HPj.out.drew _).below⟩
                        · by_cases z2 : (m : Int) ≤ z
                          · have F : Hid (chkP m m O L X T = 1) := EB.out fun h => by have := states_at h.2.1 k j hlt (by rw [HLk.out]; exact hjt); rw [HZ.out] at this; omega
                            go_wp2_with (go_quiet (fail))
                            go_ret
                            exact ⟨by rw [F.out]; rfl, (HPj.out.drew _).below⟩
                          · go_wp2_with (go_quiet (fail))
                            go_roundw
                            case rel =>
                              refine ⟨j + 1, by omega, by go_num, fun i hi => ?_, HPj.out.drew _⟩
                              by_cases e : i = j
                              · subst e; rw [HZ.out]; simp; omega
                              · exact HB.out i (by omega)
                            case measure => simp [intOf]; omega
                      · clear hts
                        go_wp2_with fail
                        go_roundw
                        case rel =>
                          refine ⟨k + 1, by omega, by go_num, fun i hi => ?_, fun i hi => ?_, fun i hi => ?_, HPj⟩
                          · by_cases e : i = k
                            · subst e; rw [HLk.out, HL.out]; simp
                            · exact HA.out i (by omega)
                          · by_cases e : i = k
                            · subst e; rw [HTk.out]; simp; omega
                            · exact HT.out i (by omega)
                          · by_cases e : i = k
                            · subst e; rw [HLk.out]; exact all_true fun i hi => HB.out i (by omega)
                            · exact HX.out i (by omega)
                        case measure => simp [intOf]; omega
              · have hbb : ((lk : Int) != (l0 : Int)) = true := by simp; omega
                have F : Hid (chkP m m O L X T = 1) := EB.out fun h => by have := (cols_at h.1).1 k hlt; rw [HLk.out, HL.out] at this; exact el this
                clear el
                go_wp2_with (go_quiet (fail))
                go_ret
                exact ⟨by rw [F.out]; rfl, (HPk.out.drew _).below⟩
            · have HLE : Hid (lensOk m L = true) := all_true fun i hi => HA.out i (by omega)
              have HST : Hid (statesOk m L X = true) := all_true fun i hi => HX.out i (by omega)
              have HTG : Hid (upOk m T 19 = true) := all_true fun i hi => HT.out i (by omega)
              clear HA HX HT
              go_wp2_with fail
              clear c0 c1 c2
              go_loopw [5] (fun i wr => ∃ j : Nat, j ≤ 256 ∧ i = .int .i64 (j : Int) ∧ Hid (∀ i, i < j → decide (O i < l0) = true) ∧ Hid (Px w w.heap.size O (.slice (some ⟨b, o, none⟩) m cap) (.slice (some ⟨b', o', none⟩) m cap') m m L X T l wr)) (fun i _ => 256 - (intOf i).toNat)
              case atStart => exact ⟨0, by omega, rfl, fun i hi => by omega, HPk⟩
              case round =>
                obtain ⟨j, hj, rfl, HB, HPj⟩ := hrel
                by_cases hjt : j < 256
                · have c1 := HPj.out.c1
                  obtain ⟨a0, cp0, c0, -, -⟩ := HPj.out.next.cells 0 hm0
                  rw [Nat.add_zero, HL.out] at c0
                  have cx := HPj.out.of j hjt
                  have hoj := HO.out j
                  have hj0 : (0 : Int) ≤ (j : Int) := by omega
                  have hj1 : (j : Int) < 256 := by omega
                  obtain ⟨z, HZ⟩ : ∃ z, Hid (O j = z) := ⟨_, (rfl : O j = O j)⟩
                  rw [HZ.out] at cx hoj
                  have hwr : IntKind.i64.wrap (z : Int) = (z : Int) := wrap_small (by omega)
                  by_cases z1 : l0 ≤ z
                  · have F : Hid (chkP m m O L X T = 1) := EB.out fun h => by have := (cols_at h.1).2.2 j hjt; rw [HZ.out, HL.out] at this; omega
                    have z1' : (l0 : Int) ≤ (z : Int) := by omega
                    go_wp2_with (go_quiet (fail))
                    go_ret
                    exact ⟨by rw [F.out]; rfl, (HPj.out.drew _).below⟩
                  · have z1' : ¬ ((l0 : Int) ≤ (z : Int)) := by omega
                    go_wp2_with (go_quiet (fail))
                    go_roundw
                    case rel =>
                      refine ⟨j + 1, by omega, by go_num, fun i hi => ?_, HPj.out.drew _⟩
                      by_cases e : i = j
                      · subst e; rw [HZ.out]; simp; omega
                      · exact HB.out i (by omega)
                    case measure => simp [intOf]; omega
                · go_wp2_with fail
                  go_ret
                  refine ⟨?_, HPj.out.below⟩
                  have hcol : colsOk m O L = true := by
                    unfold colsOk
                    rw [HLE.out, HL.out, show ofOk O l0 = true from all_true fun i hi => HB.out i (by omega)]
                    simp; omega
                  rw [E.out, if_pos ⟨hcol, HST.out, HTG.out⟩]
                  rfl
end Go.Proofs.Ytcdnbkfjiigdmaa
