/-
  The contracts of facts.allMade, facts.begin and facts.widen.
-/
import Derived.Test.YtpfehghicaaghaaFcRows
namespace Go.Proofs.Ytpfehghicaaghaa
open Go.RowKit
open Cg

set_option maxHeartbeats 3200000 in
set_option maxRecDepth 20000 in
theorem allMade_any (t : Int) (n b : Nat) (is : Nat → Bool) (terms : Bool) (v : Value) (l : List Sy) (w : World) (hv : Syms w v l) (hr : Rb w b n is) (ok : OkL t n l) :
    Calls Try.prog 104 #[v, .slice (some ⟨b, 0, none⟩) n n, .bool terms] w fun e w' => e = .returned (.bool (amk is terms l)) ∧ Below w.heap.size w w' := by
  obtain ⟨bo, bc, rfl, hm, hcs⟩ := hv
  obtain ⟨r, HR⟩ : ∃ r, Hid (amk is terms l = r) := ⟨_, (rfl : amk is terms l = amk is terms l)⟩
  rw [HR.out]
  have HRB : Hid (Rb w b n is) := hr
  have HOK : Hid (OkL t n l) := ok
  clear hr ok
  go_enter Try.func104, Try.ntmps104
  go_wp2_with fail
  go_loopw [11] (fun i wr => ∃ q : Nat, q ≤ l.length ∧ i = .int .i64 (q : Int) ∧ Hid (amk is terms (l.take q) = true) ∧ Below w.heap.size w wr) (fun i _ => l.length - (intOf i).toNat)
  case atStart => exact ⟨0, by omega, rfl, rfl, Below.refl _ _⟩
  case round =>
    obtain ⟨q, hq, rfl, HA, hbel⟩ := hrel
    by_cases hlt : q < l.length
    · obtain ⟨b2, o, rfl, hb, hc⟩ := hcs.resolve_left (by intro e; subst e; simp at hlt)
      obtain ⟨c0, c1⟩ := hc q hlt
      have HS : Hid (amk is terms (l.take (q + 1)) = mks is terms l[q]) := by
        show _ = _
        have := HA.out
        unfold amk at *
        rw [List.take_succ_eq_append_getElem hlt, List.all_append, this]; simp
      have HF : Hid (mks is terms l[q] = false → amk is terms l = false) := fun e => by
        unfold amk; rw [List.all_eq_false]; exact ⟨l[q], List.getElem_mem hlt, by simpa using e⟩
      obtain ⟨kd, m, e1, e2, e3, hk⟩ := HOK.out.at hlt
      rw [e1] at c0
      rw [e2] at c1
      have HM : Hid (mks is terms l[q] = !((kd == 1 && !terms) || (kd == 2 && !is m))) := by show _ = _; unfold mks; rw [e1, e3]
      clear e1 e2 e3 hc hcs
      generalize mks is terms l[q] = mm at HS HF HM
      replace c0 : wr.cell? ⟨b2, o + q * 2, none⟩ = _ := (hbel.cell (p := ⟨b2, o + q * 2, none⟩) hb).trans c0
      replace c1 : wr.cell? ⟨b2, o + q * 2 + 1, none⟩ = _ := (hbel.cell (p := ⟨b2, o + q * 2 + 1, none⟩) hb).trans c1
      have HB1 : Hid (Below w.heap.size w (wr.alloc (Obj.cells #[.int .i64 kd, .int .i64 (m : Int)] 47))) := hbel.alloc hbel.size _
      have HRW : Hid (Rb wr b n is) := HRB.out.next hbel
      have hk1 : (q : Int) < (l.length : Int) := by omega
      clear hbel
      rcases hk with ⟨rfl, hk⟩ | ⟨rfl, hk⟩
      · cases terms with
        | true =>
          obtain rfl : mm = true := by rw [HM.out]; rfl
          go_wp2_with fail
          go_roundw
          case rel => exact ⟨q + 1, by omega, by go_num, HS.out, HB1.out⟩
          case measure => simp [intOf]; omega
        | false =>
          obtain rfl : mm = false := by rw [HM.out]; rfl
          obtain rfl : r = false := by rw [← HR.out, HF.out rfl]
          go_wp2_with fail
          go_ret
          exact ⟨by simp, HB1.out⟩
      · have d0 : (wr.alloc (Obj.cells #[.int .i64 2, .int .i64 (m : Int)] 47)).cell? ⟨b, m, none⟩ = some (.bool (is m)) := (HRW.out.next (below_alloc _ _)).cell hk
        have hk2 : (m : Int) < (n : Int) := by omega
        generalize is m = im at HM d0
        cases im with
        | true =>
          obtain rfl : mm = true := by rw [HM.out]; rfl
          go_wp2_with fail
          go_roundw
          case rel => exact ⟨q + 1, by omega, by go_num, HS.out, HB1.out⟩
          case measure => simp [intOf]; omega
        | false =>
          obtain rfl : mm = false := by rw [HM.out]; rfl
          obtain rfl : r = false := by rw [← HR.out, HF.out rfl]
          go_wp2_with fail
          go_ret
          exact ⟨by simp, HB1.out⟩
    · obtain rfl : r = true := by rw [← HR.out, ← HA.out, List.take_of_length_le (by omega)]
      go_wp2_with fail
      go_ret
      exact ⟨by simp, hbel⟩

set_option maxHeartbeats 3200000 in
set_option maxRecDepth 20000 in
theorem widen_any (n b : Nat) (F : Nat → Wd) (m : Nat) (x : Wd) (w : World) (hr : Rw w b n F) (hm : m < n) :
    Calls Try.prog 105 #[.slice (some ⟨b, 0, none⟩) n n, .int .i64 (m : Int), .int .u64 (x.toNat : Int)] w fun e w' => e = .returned (.bool (F m ||| x != F m)) ∧ w' = w.setCell ⟨b, m, none⟩ (.int .u64 ((F m ||| x).toNat : Int)) := by
  have c0 := hr.cell hm
  have c1 := World.rowIs.frozen hr m
  have d0 := (hr.set m (F m ||| x)).cell hm
  rw [upd_at] at d0
  have hl := hr.lt
  have hm2 : (m : Int) < (n : Int) := by omega
  have ho := or64 (F m) x
  have HE : Hid ((F m ||| x != F m) = (((F m ||| x).toNat : Int) != ((F m).toNat : Int))) := by
    show _ = _
    by_cases e : F m ||| x = F m
    · rw [e]; simp
    · have : (F m ||| x).toNat ≠ (F m).toNat := fun h => e (BitVec.eq_of_toNat_eq h)
      have h2 : (((F m ||| x).toNat : Int) != ((F m).toNat : Int)) = true := bne_iff_ne.2 fun h => this (Int.ofNat.inj h)
      rw [h2]; simpa using e
  rw [HE.out]
  clear hr HE
  generalize (F m ||| x).toNat = y at ho d0 ⊢
  generalize (F m).toNat = z at ho c0 d0 ⊢
  generalize x.toNat = u at ho d0 ⊢
  go_enter Try.func105, Try.ntmps105
  go_wp2_with fail
  go_ret
  exact ⟨by simp, rfl⟩

set_option maxHeartbeats 3200000 in
set_option maxRecDepth 20000 in
theorem begin_any (t : Int) (n be bf : Nat) (E : Nat → Bool) (F : Nat → Wd) (v2 v3 v4 : Value) (v : Value) (l : List Sy) (x : Wd) (w : World) (hv : Syms w v l) (he : Rb w be n E) (hf : Rw w bf n F) (ok : OkL t n l) (ht : t ≤ 30) :
    Calls Try.prog 106 #[.agg #[.slice (some ⟨be, 0, none⟩) n n, .slice (some ⟨bf, 0, none⟩) n n, v2, v3, v4], v, .int .u64 (x.toNat : Int)] w fun e w' => e = .returned (.int .u64 ((bg E F l x).toNat : Int)) ∧ Below w.heap.size w w' := by
  obtain ⟨bo, bc, rfl, hm, hcs⟩ := hv
  obtain ⟨r, HR⟩ : ∃ r, Hid (bg E F l x = r) := ⟨_, (rfl : bg E F l x = bg E F l x)⟩
  rw [HR.out]
  obtain ⟨wb, HWB⟩ : ∃ wb, Hid (w.alloc (Obj.cells #[.slice (some ⟨be, 0, none⟩) n n, .slice (some ⟨bf, 0, none⟩) n n, v2, v3, v4] 82) = wb) := ⟨_, (rfl : _ = _)⟩
  have g0 := cell_new w #[.slice (some ⟨be, 0, none⟩) n n, .slice (some ⟨bf, 0, none⟩) n n, v2, v3, v4] 82
  have hb0 := below_alloc w (Obj.cells #[.slice (some ⟨be, 0, none⟩) n n, .slice (some ⟨bf, 0, none⟩) n n, v2, v3, v4] 82)
  rw [HWB.out] at g0 hb0
  have HRE : Hid (Rb wb be n E) := he.next hb0
  have HRF : Hid (Rw wb bf n F) := hf.next hb0
  have HOK : Hid (OkL t n l) := ok
  have HSZ : Hid (w.heap.size < wb.heap.size) := by show _ < _; rw [← HWB.out]; simp
  have y0 : wb.cell? ⟨w.heap.size, 0, none⟩ = some (.slice (some ⟨be, 0, none⟩) n n) := g0 0
  have y1 : wb.cell? ⟨w.heap.size, 1, none⟩ = some (.slice (some ⟨bf, 0, none⟩) n n) := g0 1
  have HBB : Hid (Below w.heap.size w wb) := hb0
  have HBX : Hid (∀ w', Below wb.heap.size wb w' → Below w.heap.size w w') := fun w' h => hb0.trans (h.mono hb0.size)
  clear he hf ok g0 hb0
  go_enter Try.func106, Try.ntmps106
  go_wp2_with fail
  rw [HWB.out]
  clear HWB
  obtain ⟨g, HG⟩ : ∃ g, Hid (w.heap.size = g) := ⟨_, (rfl : w.heap.size = w.heap.size)⟩
  rw [HG.out] at y0 y1 HSZ HBB ⊢
  go_loopw [7, 12] (fun a i wr => ∃ (q : Nat) (z : Wd), q ≤ l.length ∧ i = .int .i64 (q : Int) ∧ a = .int .u64 (z.toNat : Int) ∧ Hid (z ||| bg E F (l.drop q) x = r) ∧ Below wb.heap.size wb wr) (fun _ i _ => l.length - (intOf i).toNat)
  case atStart => exact ⟨0, 0#64, by omega, rfl, rfl, by show _ = _; rw [List.drop_zero, HR.out]; simp, Below.refl _ _⟩
  case round =>
    obtain ⟨q, z, hq, rfl, rfl, HA, hbel⟩ := hrel
    by_cases hlt : q < l.length
    · obtain ⟨b2, o, rfl, hb, hc⟩ := hcs.resolve_left (by intro e; subst e; simp at hlt)
      obtain ⟨c0, c1⟩ := hc q hlt
      obtain ⟨kd, m, e1, e2, e3, hk⟩ := HOK.out.at hlt
      have HS : Hid (bg E F (l.drop q) x = if kd = 1 then 1#64 <<< m else F m ||| (if E m = true then bg E F (l.drop (q + 1)) x else 0#64)) := by
        show _ = _
        rw [← List.getElem_cons_drop hlt]
        conv => lhs; unfold bg
        rw [e1, e3]
      rw [e1] at c0
      rw [e2] at c1
      clear e1 e2 e3 hc hcs
      have hbw : Below g w wr := HBB.out.trans (hbel.mono (Nat.le_of_lt HSZ.out))
      replace hb : b2 < g := by rw [← HG.out]; exact hb
      replace c0 : wr.cell? ⟨b2, o + q * 2, none⟩ = _ := (hbw.cell (p := ⟨b2, o + q * 2, none⟩) hb).trans c0
      replace c1 : wr.cell? ⟨b2, o + q * 2 + 1, none⟩ = _ := (hbw.cell (p := ⟨b2, o + q * 2 + 1, none⟩) hb).trans c1
      have hbA : Below wb.heap.size wb (wr.alloc (Obj.cells #[.int .i64 kd, .int .i64 (m : Int)] 47)) := hbel.alloc hbel.size _
      have z0 : (wr.alloc (Obj.cells #[.int .i64 kd, .int .i64 (m : Int)] 47)).cell? ⟨g, 0, none⟩ = _ := (hbA.cell (p := ⟨g, 0, none⟩) HSZ.out).trans y0
      have z1 : (wr.alloc (Obj.cells #[.int .i64 kd, .int .i64 (m : Int)] 47)).cell? ⟨g, 1, none⟩ = _ := (hbA.cell (p := ⟨g, 1, none⟩) HSZ.out).trans y1
      have HB1 : Hid (Below wb.heap.size wb (wr.alloc (Obj.cells #[.int .i64 kd, .int .i64 (m : Int)] 47))) := hbA
      have HE1 : Hid (Rb (wr.alloc (Obj.cells #[.int .i64 kd, .int .i64 (m : Int)] 47)) be n E) := HRE.out.next hbA
      have HF1 : Hid (Rw (wr.alloc (Obj.cells #[.int .i64 kd, .int .i64 (m : Int)] 47)) bf n F) := HRF.out.next hbA
      have hk1 : (q : Int) < (l.length : Int) := by omega
      clear hbel hbw hbA y0 y1
      rcases hk with ⟨rfl, hk⟩ | ⟨rfl, hk⟩
      · have hm64 : m < 64 := by omega
        have hs := shl_one m hm64
        rw [if_pos rfl] at HS
        generalize 1#64 <<< m = sv at HS hs
        obtain rfl : r = z ||| sv := by rw [← HA.out, HS.out]
        have ho := or64 z sv
        obtain ⟨zz, HZ⟩ : ∃ zz, Hid (z ||| sv = zz) := ⟨_, (rfl : z ||| sv = z ||| sv)⟩
        rw [HZ.out] at ho ⊢
        go_wp2_with fail
        go_ret
        exact ⟨by rw [← HZ.out]; simp, HBX.out _ HB1.out⟩
      · have HS2 : Hid (z ||| (F m ||| (if E m = true then bg E F (l.drop (q + 1)) x else 0#64)) = r) := by show _ = _; rw [← HA.out, HS.out, if_neg (by omega : ¬ ((2 : Int) = 1))]
        have d0 := HE1.out.cell hk
        have d1 := HF1.out.cell hk
        have hk2 : (m : Int) < (n : Int) := by omega
        have ho := or64 z (F m)
        generalize E m = im at HS2 d0
        generalize F m = fm at HS2 d1 ho
        obtain ⟨zz, HZ⟩ : ∃ zz, Hid (z ||| fm = zz) := ⟨_, (rfl : z ||| fm = z ||| fm)⟩
        rw [HZ.out] at ho
        cases im with
        | true =>
          go_wp2_with fail
          go_roundw
          case rel => exact ⟨q + 1, zz, by omega, by go_num, rfl, by show _ = _; rw [← HZ.out, ← HS2.out, if_pos rfl, BitVec.or_assoc], HB1.out⟩
          case measure => simp [intOf]; omega
        | false =>
          obtain rfl : r = zz := by rw [← HS2.out, if_neg (by decide), ← HZ.out]; simp
          go_wp2_with fail
          go_ret
          exact ⟨by simp, HBX.out _ HB1.out⟩
    · obtain rfl : r = z ||| x := by rw [← HA.out, List.drop_of_length_le (by omega)]; rfl
      have ho := or64 z x
      obtain ⟨zz, HZ⟩ : ∃ zz, Hid (z ||| x = zz) := ⟨_, (rfl : z ||| x = z ||| x)⟩
      rw [HZ.out] at ho ⊢
      have HB1 : Hid (Below wb.heap.size wb wr) := hbel
      clear hbel
      go_wp2_with fail
      go_ret
      exact ⟨by rw [← HZ.out]; simp, HBX.out _ HB1.out⟩
end Go.Proofs.Ytpfehghicaaghaa
