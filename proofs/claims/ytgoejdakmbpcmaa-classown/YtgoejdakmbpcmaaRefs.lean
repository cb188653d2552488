/-
  The contracts of pushref.Parts and of its closure: of every list of classes the reference's list of parts, in a row of its own.
-/
import Derived.Test.YtgoejdakmbpcmaaPartses
import Derived.Test.YtgoejdakmbpcmaaWheres
namespace Go.Proofs.Ytgoejdakmbpcmaa
open Go.RowKit
open Cls

/-- What the closure's region keeps. -/
def SL38 (w : World) (a bb b o i k : Nat) (c : Cl) (v : Value) (W : World) : Prop := Below w.heap.size w W ∧ (W.cell? ⟨a, 0, none⟩ = some v ∧ W.cell? ⟨bb, 0, none⟩ = some (.int .i64 (k : Int))) ∧ (W.cell? ⟨b, o + i * 4, none⟩ = some (.int .u64 (c.1.toNat : Int)) ∧ W.cell? ⟨b, o + i * 4 + 1, none⟩ = some (.int .u64 (c.2.1.toNat : Int)) ∧ W.cell? ⟨b, o + i * 4 + 2, none⟩ = some (.int .u64 (c.2.2.1.toNat : Int)) ∧ W.cell? ⟨b, o + i * 4 + 3, none⟩ = some (.int .u64 (c.2.2.2.toNat : Int)))
theorem cell_next {W W' : World} {p : Addr} {v : Value} (h : W.cell? p = some v) (hb : Below W.heap.size W W') : W'.cell? p = some v := (hb.cell (World.block_lt_of_cell? W p h)).trans h
theorem SL38.next {w : World} {a bb b o i k : Nat} {c : Cl} {v : Value} (W W' : World) (h : SL38 w a bb b o i k c v W) (hb : Below W.heap.size W W') : SL38 w a bb b o i k c v W' :=
  ⟨h.1.trans (hb.mono h.1.size), ⟨cell_next h.2.1.1 hb, cell_next h.2.1.2 hb⟩, cell_next h.2.2.1 hb, cell_next h.2.2.2.1 hb, cell_next h.2.2.2.2.1 hb, cell_next h.2.2.2.2.2 hb⟩
theorem alike_no {l : List Cl} {i k x : Nat} (_hi : i < l.length) (h : alike (l.take (i + 1)) k x = false) : alike l k x = false := by
  cases ha : alike l k x
  · rfl
  · have : alike (l.take (i + 1)) k x = true := alike_iff.2 fun c hc => alike_iff.1 ha c (List.mem_of_mem_take hc)
    rw [h] at this; cases this

set_option maxHeartbeats 2000000 in
set_option maxRecDepth 20000 in
theorem clos38 (x k : Nat) (hx : x < 256) (hk : k < 256) (l : List Cl) (v : Value) (a bb : Nat) (W : World) (hv : Cs W v l) (ha : W.cell? ⟨a, 0, none⟩ = some v) (hbb : W.cell? ⟨bb, 0, none⟩ = some (.int .i64 (k : Int))) :
    Calls Try.prog 38 (#[.int .i64 (x : Int)] ++ #[.pointer (some ⟨a, 0, none⟩), .pointer (some ⟨bb, 0, none⟩)]) W fun e w' => e = .returned (.bool (alike l k x)) ∧ Below W.heap.size W w' := by
  show Calls Try.prog 38 #[.int .i64 (x : Int), .pointer (some ⟨a, 0, none⟩), .pointer (some ⟨bb, 0, none⟩)] W _
  obtain ⟨ao, cap, rfl, hmax, hc⟩ := hv
  have HC : Hid (∀ k (hk : k < l.length), ∃ b o, ao = some ⟨b, o, none⟩ ∧ b < W.heap.size ∧ ∀ j, j < 4 → W.cell? ⟨b, o + k * 4 + j, none⟩ = some (.int .u64 ((wd l[k] j).toNat : Int))) := fun k hk => by
    rcases hc with h | ⟨b, o, h1, h2, h3⟩
    · subst h; cases hk
    · exact ⟨b, o, h1, h2, fun j hj => h3 k hk j hj⟩
  have HA : Hid (W.cell? ⟨a, 0, none⟩ = some (.slice ao l.length cap) ∧ W.cell? ⟨bb, 0, none⟩ = some (.int .i64 (k : Int))) := ⟨ha, hbb⟩
  clear hc ha hbb
  go_enter Try.func38, Try.ntmps38
  go_wp2_with fail
  go_loopw [5] (fun z wr => ∃ i : Nat, i ≤ l.length ∧ z = .int .i64 (i : Int) ∧ Hid (alike (l.take i) k x = true ∧ Below W.heap.size W wr)) (fun z _ => l.length - (intOf z).toNat)
  case atStart => exact ⟨0, by omega, rfl, ⟨rfl, Below.refl _ _⟩⟩
  case round =>
    obtain ⟨i, hi, rfl, HI⟩ := hrel
    have ha := cell_next HA.out.1 HI.out.2
    have hbb := cell_next HA.out.2 HI.out.2
    by_cases hlt : i < l.length
    · obtain ⟨b, o, hao, hbw, hcw⟩ := HC.out i hlt
      obtain ⟨cc, HP⟩ : ∃ c, Hid (l[i] = c) := ⟨_, (rfl : l[i] = l[i])⟩
      rw [HP.out] at hcw
      have hS0 : SL38 wr a bb b o i k cc (.slice (some ⟨b, o, none⟩) l.length cap) wr.drew := ⟨(Below.refl _ wr).drew, ⟨by rw [← hao]; exact ha, hbb⟩, (HI.out.2.cell hbw).trans (hcw 0 (by omega)), (HI.out.2.cell hbw).trans (hcw 1 (by omega)), (HI.out.2.cell hbw).trans (hcw 2 (by omega)), (HI.out.2.cell hbw).trans (hcw 3 (by omega))⟩
      have htk : Hid (alike (l.take (i + 1)) k x = (mem cc k == mem cc x)) := by
        show alike (l.take (i + 1)) k x = _
        rw [List.take_succ_eq_append_getElem hlt, HP.out, alike_snoc, HI.out.1, Bool.true_and]
      clear hcw
      subst hao
      go_upto_region 4 with fail
      have p0 : ∀ p : Kp (SL38 wr a bb b o i k cc (.slice (some ⟨b, o, none⟩) l.length cap)), p.W.cell? ⟨a, 0, none⟩ = some (.slice (some ⟨b, o, none⟩) l.length cap) := fun p => p.h.2.1.1
      have p1 : ∀ p : Kp (SL38 wr a bb b o i k cc (.slice (some ⟨b, o, none⟩) l.length cap)), p.W.cell? ⟨bb, 0, none⟩ = some (.int .i64 (k : Int)) := fun p => p.h.2.1.2
      have c0 : ∀ p : Kp (SL38 wr a bb b o i k cc (.slice (some ⟨b, o, none⟩) l.length cap)), p.W.cell? ⟨b, o + i * 4, none⟩ = some (.int .u64 (cc.1.toNat : Int)) := fun p => p.h.2.2.1
      have c1 : ∀ p : Kp (SL38 wr a bb b o i k cc (.slice (some ⟨b, o, none⟩) l.length cap)), p.W.cell? ⟨b, o + i * 4 + 1, none⟩ = some (.int .u64 (cc.2.1.toNat : Int)) := fun p => p.h.2.2.2.1
      have c2 : ∀ p : Kp (SL38 wr a bb b o i k cc (.slice (some ⟨b, o, none⟩) l.length cap)), p.W.cell? ⟨b, o + i * 4 + 2, none⟩ = some (.int .u64 (cc.2.2.1.toNat : Int)) := fun p => p.h.2.2.2.2.1
      have c3 : ∀ p : Kp (SL38 wr a bb b o i k cc (.slice (some ⟨b, o, none⟩) l.length cap)), p.W.cell? ⟨b, o + i * 4 + 3, none⟩ = some (.int .u64 (cc.2.2.2.toNat : Int)) := fun p => p.h.2.2.2.2.2
      have hne : Nonempty (Kp (SL38 wr a bb b o i k cc (.slice (some ⟨b, o, none⟩) l.length cap))) := ⟨⟨_, hS0⟩⟩
      obtain ⟨P, HP1⟩ : ∃ P, Hid (mem cc k = P) := ⟨_, (rfl : mem cc k = mem cc k)⟩
      obtain ⟨R, HR1⟩ : ∃ R, Hid (mem cc x = R) := ⟨_, (rfl : mem cc x = mem cc x)⟩
      have HK1 : Hid (∀ W, Calls Try.prog 9 #[.agg #[.int .u64 (cc.1.toNat : Int), .int .u64 (cc.2.1.toNat : Int), .int .u64 (cc.2.2.1.toNat : Int), .int .u64 (cc.2.2.2.toNat : Int)], .int .i64 (k : Int)] W fun e w' => e = .returned (.bool P) ∧ Lays W w') := fun W => HP1.out ▸ rhas_any cc _ k rfl hk W
      have HX1 : Hid (∀ W, Calls Try.prog 9 #[.agg #[.int .u64 (cc.1.toNat : Int), .int .u64 (cc.2.1.toNat : Int), .int .u64 (cc.2.2.1.toNat : Int), .int .u64 (cc.2.2.2.toNat : Int)], .int .i64 (x : Int)] W fun e w' => e = .returned (.bool R) ∧ Lays W w') := fun W => HR1.out ▸ rhas_any cc _ x rfl hx W
      refine wp_region_kept mixed (by kernel_rfl) hS0 ?_
      repeat (go_big_quiet_step (first | (go_at_call 9; with_reducible exact Kp.calls_lays _ SL38.next (HK1.out _)) | (go_at_call 9; with_reducible exact Kp.calls_lays _ SL38.next (HX1.out _))))
      refine wpQuiet_nil ?_
      intro W1 hw1
      obtain ⟨⟨W1, HS⟩, rfl⟩ := hw1
      have HB : Hid (Below wr.heap.size wr W1) := HS.1
      clear p0 p1 c0 c1 c2 c3 hne hS0 HS HK1 HX1
      have HBW : Hid (Below W.heap.size W W1) := HI.out.2.trans (HB.out.mono HI.out.2.size)
      cases P <;> cases R
      · go_wp2_with fail
        go_roundw
        case rel => exact ⟨i + 1, by omega, by go_num, ⟨by rw [htk.out, HP1.out, HR1.out]; rfl, HBW.out⟩⟩
        case measure => simp [intOf]; omega
      · go_wp2_with fail
        go_ret
        exact ⟨by rw [alike_no (l := l) (i := i) (k := k) (x := x) hlt (by rw [htk.out, HP1.out, HR1.out]; rfl)]; rfl, HBW.out⟩
      · go_wp2_with fail
        go_ret
        exact ⟨by rw [alike_no (l := l) (i := i) (k := k) (x := x) hlt (by rw [htk.out, HP1.out, HR1.out]; rfl)]; rfl, HBW.out⟩
      · go_wp2_with fail
        go_roundw
        case rel => exact ⟨i + 1, by omega, by go_num, ⟨by rw [htk.out, HP1.out, HR1.out]; rfl, HBW.out⟩⟩
        case measure => simp [intOf]; omega
    · have e : i = l.length := by omega
      subst e
      go_wp2_with fail
      go_ret
      have := HI.out.1
      rw [List.take_length] at this
      exact ⟨by rw [this]; rfl, HI.out.2⟩

/-- What the reference's loop keeps. -/
structure RR (l : List Cl) (w : World) (sv v : Value) (k bb : Nat) (wr : World) : Prop where
  own : wr.ownsRow (w.heap.size + 1) 24 4 v (refTo l k).length (cs (refTo l k))
  box : wr.cell? ⟨w.heap.size, 0, none⟩ = some sv
  cnt : wr.heap[bb]? = some (.cells #[.int .i64 (k : Int)] 3)
  below : Below w.heap.size w wr
  lo : w.heap.size < bb
  ne : v.ownBlock ≠ some bb
theorem RR.next {l : List Cl} {w : World} {sv v : Value} {k bb : Nat} {wr W : World} (h : RR l w sv v k bb wr) (hb : Below wr.heap.size wr W) : RR l w sv v k bb W :=
  ⟨own_below h.own hb (Nat.le_refl _), cell_next h.box hb, blk_next hb h.cnt, h.below.trans (hb.mono h.below.size), h.lo, h.ne⟩
theorem cnt_cell {W : World} {bb : Nat} {z : Value} (h : W.heap[bb]? = some (.cells #[z] 3)) : W.cell? ⟨bb, 0, none⟩ = some z := by simp [World.cell?, h]
theorem cnt_free {W : World} {bb : Nat} {z : Value} (h : W.heap[bb]? = some (.cells #[z] 3)) : W.frozen? ⟨bb, 0, none⟩ = false := by simp [World.frozen?, h]
theorem blk_lt {W : World} {b : Nat} {o : Obj} (h : W.heap[b]? = some o) : b < W.heap.size := by
  rcases Nat.lt_or_ge b W.heap.size with h' | h'
  · exact h'
  · rw [Array.getElem?_eq_none h'] at h; cases h
theorem isFirst_no {l : List Cl} {k c : Nat} (hc : c < k) (h : alike l k c = true) : isFirst l k = false := by
  cases hf : isFirst l k
  · rfl
  · have := isFirst_iff.1 hf c hc; rw [h] at this; cases this
def cntOf (p : Value) (wr : World) : Nat := match p with | .pointer (some q) => ((wr.cell? q).map (fun z => (intOf z).toNat)).getD 0 | _ => 0
theorem cntOf_eq {W : World} {bb k : Nat} (h : W.heap[bb]? = some (.cells #[.int .i64 (k : Int)] 3)) : cntOf (.pointer (some ⟨bb, 0, none⟩)) W = k := by
  simp [cntOf, cnt_cell h, intOf]
theorem own_lt' {w : World} {B : Nat} {e : TypeId} {size : Nat} {v : Value} {n : Nat} {xs : List Value} (h : w.ownsRow B e size v n xs) : ∀ j, v.ownBlock = some j → j < w.heap.size := by
  obtain ⟨_, h | ⟨g, cap, cur, rfl, _, hh, _⟩⟩ := h
  · obtain ⟨rfl, _⟩ := h; intro j hj; simp [Value.ownBlock] at hj
  · intro j hj; simp [Value.ownBlock] at hj; subst hj; exact blk_lt hh
theorem own_ge' {w : World} {B : Nat} {e : TypeId} {size : Nat} {v : Value} {n : Nat} {xs : List Value} (h : w.ownsRow B e size v n xs) : ∀ j, v.ownBlock = some j → B ≤ j := own_ge h
theorem enters38 : ∀ args w, (callFunc 38 args).run Try.prog w = .ok (.enter 38 args) w := enters_of Try.func38 (by kernel_rfl) rfl

set_option maxHeartbeats 4000000 in
set_option maxRecDepth 20000 in
theorem refs_any (l : List Cl) (v : Value) (w : World) (hv : Cs w v l) :
    Calls Try.prog 24 #[v] w fun e w' => ∃ v', e = .returned v' ∧ w'.ownsRow (w.heap.size + 1) 24 4 v' (ref l).length (cs (ref l)) ∧ Below w.heap.size w w' := by
  obtain ⟨i0, hi, hz0, hz1, hz2⟩ := info_parts info24
  have HV : Hid (Cs w v l) := hv
  obtain ⟨ao, cap, hv', _⟩ := hv
  subst hv'
  go_enter Try.func24, Try.ntmps24
  go_wp2_with fail
  go_loopw [3, 4] (fun v3 p wr => ∃ (k bb : Nat), k ≤ 256 ∧ p = .pointer (some ⟨bb, 0, none⟩) ∧ Hid (RR l w (.slice ao l.length cap) v3 k bb wr)) (fun _ p wr => 256 - cntOf p wr)
  case atStart =>
    refine ⟨0, w.heap.size + 1, by omega, rfl, ⟨World.ownsRow_nil _ _ _ _, ?_, ?_, ((Below.refl _ _).alloc (Nat.le_refl _) _).alloc (by simp) _, by omega, by simp [Value.ownBlock]⟩⟩
    · simp
    · have h := block_new (w.alloc (.cells #[.slice ao l.length cap] 36)) (.cells #[.int .i64 0] 3)
      have e : (w.alloc (.cells #[.slice ao l.length cap] 36)).heap.size = w.heap.size + 1 := by simp
      rw [e] at h; exact h
  case round =>
    obtain ⟨k, bb, hk, rfl, HR⟩ := hrel
    rename World => wo
    have hcc := cnt_cell HR.out.cnt
    have K1 : Hid ((k : Int) + 1 = ((k + 1 : Nat) : Int)) := (by omega : (k : Int) + 1 = ((k + 1 : Nat) : Int))
    by_cases hlt : k < 256
    · have hdb : decide ((k : Int) < 256) = true := decide_eq_true (by omega)
      go_wp2_with fail
      go_loopw [6, 7] (fun f c wr2 => ∃ (c0 : Nat) (fb : Bool), c0 ≤ k ∧ c = .int .i64 (c0 : Int) ∧ f = .bool fb ∧ Hid ((fb = true → ∀ j, j < c0 → alike l k j = false) ∧ (fb = false → isFirst l k = false) ∧ Below wo.heap.size wo wr2)) (fun _ c _ => k - (intOf c).toNat)
      case atStart => exact ⟨0, true, by omega, rfl, rfl, ⟨fun _ j hj => absurd hj (Nat.not_lt_zero _), fun h => by (cases h), Below.refl _ _⟩⟩
      case round =>
        rename World => wr2
        obtain ⟨c0, fb, hc0, rfl, rfl, HI⟩ := hrel
        have HR2 : Hid (RR l w (.slice ao l.length cap) u3 k bb wr2) := HR.out.next HI.out.2.2
        by_cases hcl : c0 < k
        · cases fb
          · have HF : Hid (isFirst l k = false) := HI.out.2.1 rfl
            have hcc2 := cnt_cell HR2.out.cnt
            go_wp2_with fail
            have HE : Hid (refTo l (k + 1) = refTo l k) := by
              show refTo l (k + 1) = _
              rw [refTo_succ, if_neg (by rw [HF.out]; simp), List.append_nil]
            go_roundw
            case rel =>
              refine ⟨k + 1, wr2.heap.size, by omega, rfl, ⟨?_, ?_, ?_, ?_, ?_, ?_⟩⟩
              · rw [HE.out]; exact HR2.out.own.alloc _
              · exact cell_next HR2.out.box ((Below.refl _ _).alloc (Nat.le_refl _) _)
              · exact (block_new wr2 _).trans (by rw [K1.out])
              · exact HR2.out.below.alloc HR2.out.below.size _
              · have := World.block_lt_of_cell? _ _ HR2.out.box; exact this
              · intro e; have := (own_lt' HR2.out.own _ e); omega
            case measure =>
              rw [cntOf_eq HR.out.cnt, cntOf_eq (k := k + 1) (by exact (block_new wr2 _).trans (by rw [K1.out]))]
              omega
          · have hcc2 := cnt_cell HR2.out.cnt
            have HCL : Hid (Calls Try.prog 38 #[.int .i64 (c0 : Int), .pointer (some ⟨w.heap.size, 0, none⟩), .pointer (some ⟨bb, 0, none⟩)] wr2 fun e w' => e = .returned (.bool (alike l k c0)) ∧ Below wr2.heap.size wr2 w') := clos38 c0 k (by omega) hlt l _ _ _ wr2 (HV.out.below HR2.out.below (Nat.le_refl _)) HR2.out.box hcc2
            obtain ⟨al, HAL⟩ : ∃ al, Hid (alike l k c0 = al) := ⟨_, (rfl : alike l k c0 = alike l k c0)⟩
            rw [HAL.out] at HCL
            go_wp2_with (go_at_call 38; refine HCL.out.mono ?_; rintro e w3 ⟨rfl, hb3⟩)
            go_roundw
            case rel =>
              refine ⟨c0 + 1, !al, by omega, by go_num, rfl, ⟨fun h j hj => ?_, fun h => ?_, HI.out.2.2.trans (hb3.mono HI.out.2.2.size)⟩⟩
              · by_cases e : j = c0
                · rw [e, HAL.out]; simpa using h
                · exact HI.out.1 (by simp) j (by omega)
              · exact isFirst_no hcl (by rw [HAL.out]; simpa using h)
            case measure => simp [intOf]; omega
        · cases fb
          · have HF : Hid (isFirst l k = false) := HI.out.2.1 rfl
            have hcc2 := cnt_cell HR2.out.cnt
            go_wp2_with fail
            have HE : Hid (refTo l (k + 1) = refTo l k) := by
              show refTo l (k + 1) = _
              rw [refTo_succ, if_neg (by rw [HF.out]; simp), List.append_nil]
            go_roundw
            case rel =>
              refine ⟨k + 1, wr2.heap.size, by omega, rfl, ⟨?_, ?_, ?_, ?_, ?_, ?_⟩⟩
              · rw [HE.out]; exact HR2.out.own.alloc _
              · exact cell_next HR2.out.box ((Below.refl _ _).alloc (Nat.le_refl _) _)
              · exact (block_new wr2 _).trans (by rw [K1.out])
              · exact HR2.out.below.alloc HR2.out.below.size _
              · have := World.block_lt_of_cell? _ _ HR2.out.box; exact this
              · intro e; have := (own_lt' HR2.out.own _ e); omega
            case measure =>
              rw [cntOf_eq HR.out.cnt, cntOf_eq (k := k + 1) (by exact (block_new wr2 _).trans (by rw [K1.out]))]
              omega
          · have HF : Hid (isFirst l k = true) := isFirst_iff.2 fun c hc => HI.out.1 rfl c (by omega)
            have hcc2 := cnt_cell HR2.out.cnt
            have hp : ∀ (W : World) (x : Nat), x < 256 → Below wr2.heap.size wr2 W → Calls Try.prog 38 (#[.int .i64 (x : Int)] ++ #[.pointer (some ⟨w.heap.size, 0, none⟩), .pointer (some ⟨bb, 0, none⟩)]) W fun e w' => e = .returned (.bool (alike l k x)) ∧ Below W.heap.size W w' := fun W x hx hb =>
              clos38 x k hx hlt l _ _ _ W (HV.out.below (HR2.out.below.trans (hb.mono HR2.out.below.size)) (Nat.le_refl _)) (cell_next HR2.out.box hb) (cnt_cell (blk_next hb HR2.out.cnt))
            have HW : Hid (Calls Try.prog 11 #[.func (.func 38) #[] #[.pointer (some ⟨w.heap.size, 0, none⟩), .pointer (some ⟨bb, 0, none⟩)]] wr2 fun e w' => e = .returned (.agg #[.int .u64 ((wher (alike l k)).1.toNat : Int), .int .u64 ((wher (alike l k)).2.1.toNat : Int), .int .u64 ((wher (alike l k)).2.2.1.toNat : Int), .int .u64 ((wher (alike l k)).2.2.2.toNat : Int)]) ∧ Below wr2.heap.size wr2 w') := where_any 38 _ (alike l k) wr2 enters38 hp
            clear hp
            have hrl := refTo_length l k
            have hszb := World.block_lt_of_cell? _ _ HR2.out.box
            simp only at hszb
            go_wp2_with (first
              | (go_at_call 11; refine HW.out.mono ?_; rintro e w3 ⟨rfl, hb3⟩; have HR3 : Hid (RR l w (.slice ao l.length cap) u3 k bb w3) := HR2.out.next hb3; have hcc3 := cnt_cell HR3.out.cnt; have hz3 := hb3.size)
              | (at_builtin; refine wpList_append_own _ rfl _ _ 36 rfl (w.heap.size + 1) 24 i0 (.agg #[.int .u64 0, .int .u64 0, .int .u64 0, .int .u64 0]) 4 32 Try.underlying36 hi hz0 hz1 hz2 rfl (by decide) _ _ _ rfl (HR3.out.own.alloc _) ⟨w3.heap.size, 0, none⟩ 1 1 [.int .u64 ((wher (alike l k)).1.toNat : Int), .int .u64 ((wher (alike l k)).2.1.toNat : Int), .int .u64 ((wher (alike l k)).2.2.1.toNat : Int), .int .u64 ((wher (alike l k)).2.2.2.toNat : Int)] rfl rfl (World.news_of_block (t := 24) (fr := (0, 0)) (heap_alloc_new w3 _)) (by simp [Value.oneCell']) (by unfold maxLen; omega) (by omega) (by simp; omega) ?_; intro v' w4 hown' hgrow _; have HC4 : Hid (w4.heap[bb]? = some (.cells #[.int .i64 (k : Int)] 3)) := (hgrow.block bb (by have := blk_lt HR3.out.cnt; simp; omega) (fun e => HR3.out.ne e.symm)).trans ((Below.heap_alloc _ _ _ (blk_lt HR3.out.cnt)).trans HR3.out.cnt); have hcc4 := cnt_cell HC4.out)
              | go_in)
            have HE : Hid (refTo l (k + 1) = refTo l k ++ [wher (alike l k)]) := by
              show refTo l (k + 1) = _
              rw [refTo_succ, if_pos HF.out]
            have hz4 := hgrow.size
            simp at hz4
            have hlen1 : (refTo l (k + 1)).length = (refTo l k).length + 1 := by rw [HE.out]; simp
            go_roundw
            case rel =>
              refine ⟨k + 1, w4.heap.size, by omega, rfl, ⟨?_, ?_, ?_, ?_, ?_, ?_⟩⟩
              · rw [hlen1, HE.out, cs_append]; exact World.ownsRow.alloc hown' _
              · exact cell_next (cell_grown' (cell_next HR3.out.box ((Below.refl _ _).alloc (Nat.le_refl _) _)) hgrow (fun e => by have := own_ge' HR3.out.own _ e.symm; omega)) ((Below.refl _ _).alloc (Nat.le_refl _) _)
              · exact (block_new w4 _).trans (by rw [K1.out])
              · exact ((HR3.out.below.alloc HR3.out.below.size _).grown hgrow (by simp; omega) (fun j hj => by have := own_ge' HR3.out.own _ hj; omega)).alloc (by omega) _
              · omega
              · intro e; have := own_lt' hown' _ e; omega
            case measure =>
              rw [cntOf_eq HR.out.cnt, cntOf_eq (k := k + 1) (by exact (block_new w4 _).trans (by rw [K1.out]))]
              omega
    · have e : k = 256 := by omega
      subst e
      go_wp2_with fail
      go_ret
      exact ⟨_, rfl, HR.out.own, HR.out.below⟩
end Go.Proofs.Ytgoejdakmbpcmaa
