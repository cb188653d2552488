/-
  The contract of atom, of the document's own reader. What Parse answers where it refuses: the place too. The contract of ReadRex. A class's row: the plain mathematics. The closure of class. The contract of class.
-/
import Derived.Test.YthloedfiomfnbaaQtW1
import Derived.Test.YthloedfiomfnbaaPaGoes
import Derived.Test.YthloedfiomfnbaaRefRuns
import Derived.Test.YthloedfiomfnbaaRxParse
import Derived.Test.YthloedfiomfnbaaRefW
import Derived.Deep.WholeRow
namespace Go.Proofs.Ythloedfiomfnbaa
open Go.RowKit
open Cls Rex Txt

/-- What is known of a class and a stop that were handed on. -/
def KB (s : ByteArray) (g : Nat) (k : Value) (B : Nat) (r : Int × Cl × Nat × Nat) (c : Cl) (b : Option Addr) (W : World) : Prop :=
  (r.2.2.2 = 0 ∧ b = none ∧ r.1 = 3 ∧ c = r.2.1 ∧ Pt g s r.2.2.1 k W) ∨ (r.2.2.2 ≠ 0 ∧ ∃ st, b = some ⟨st, 0, none⟩ ∧ St st r.2.2.2 r.2.2.1 W ∧ B ≤ st ∧ Pq g s k W)
/-- What class is to do. -/
def KC (s : ByteArray) (k : Value) : Prop := ∀ (g i : Nat) (w : World), Pt g s i k w → i ≤ s.size → bt s i ≠ 93 → Calls Try.prog 77 #[.pointer (some ⟨g, 0, none⟩)] w fun e w' => ∃ (c : Cl) (b : Option Addr), e = .returned (.tuple #[.agg #[.int .u64 ((c).1.toNat : Int), .int .u64 ((c).2.1.toNat : Int), .int .u64 ((c).2.2.1.toNat : Int), .int .u64 ((c).2.2.2.toNat : Int)], .pointer b]) ∧ Fm (fun b => b = g) w w' ∧ KB s g k w.heap.size (setR s i) c b w'
theorem doneQ {g : Nat} {s : ByteArray} {k : Value} {w : World} {n : Nat} {x : Res} {q : R6} {b : Option Addr} {W wz : World} (hlt : g < w.heap.size) (hnw : w.heap.size ≤ n) (hgr : Fm (fun b => b = g) w W) (hbn : W.heap[n]? = some (.cells #[.int .i64 0, .int .u64 0, .int .u64 0, .int .u64 0, .int .u64 0, .slice none 0 0] 27)) (hq : QB s g k w.heap.size (fun z => w.heap.size ≤ z ∧ z ≠ n ∧ z < W.heap.size) x q b W) (hz : put6 W n (.int .i64 q.1) (.int .u64 (q.2.1.1.toNat : Int)) (.int .u64 (q.2.1.2.1.toNat : Int)) (.int .u64 (q.2.1.2.2.1.toNat : Int)) (.int .u64 (q.2.1.2.2.2.toNat : Int)) (.slice q.2.2.1 q.2.2.2.1 q.2.2.2.2) = wz) : Fm (fun b => b = g) w wz ∧ QB s g k w.heap.size (fun z => w.heap.size ≤ z ∧ z < wz.heap.size) x q b wz := by
  have sz : wz.heap.size = W.heap.size := by rw [← hz]; exact put6_size _ _ _ _ _ _ _ _
  have fo : ∀ z, z ≠ n → wz.heap[z]? = W.heap[z]? := fun z hzn => by rw [← hz]; exact put6_other W n _ _ _ _ _ _ z hzn
  refine ⟨⟨by rw [← hz, put6_os]; exact hgr.os, by rw [← hz, put6_tape]; exact hgr.tape, by rw [← hz, put6_output]; exact hgr.output, by have := hgr.size; omega, fun z hz hn => by rw [fo z (by omega)]; exact hgr.block z hz hn⟩, ?_⟩
  exact hq.move (Nat.le_refl _) (fun z hz => ⟨hz.1, by omega⟩) (fo g (by omega)) (fun z hz => fo z hz.2.1) (fun z u v hs hz => fo z (st_ne hs hbn))
theorem Pq.cells {g : Nat} {s : ByteArray} {z : Int} {k : Value} {W : World} (h : W.heap[g]? = some (.cells #[.string s, .int .i64 z, k] 56)) : (W.cell? ⟨g, 1, none⟩ = some (.int .i64 z) ∧ W.cell? ⟨g, 2, none⟩ = some k) ∧ W.frozen? ⟨g, 1, none⟩ = false ∧ W.frozen? ⟨g, 2, none⟩ = false := by
  simp [World.cell?, World.frozen?, h]
theorem Pq.set1 {g : Nat} {s : ByteArray} {z : Int} {k : Value} {W : World} (h : W.heap[g]? = some (.cells #[.string s, .int .i64 z, k] 56)) (y : Int) : (W.setCell ⟨g, 1, none⟩ (.int .i64 y)).heap[g]? = some (.cells #[.string s, .int .i64 y, k] 56) := by
  simp only [World.setCell, Array.getElem?_modify, if_true, h]
  rfl
theorem Pq.set2 {g : Nat} {s : ByteArray} {z : Int} {k : Value} {W : World} (h : W.heap[g]? = some (.cells #[.string s, .int .i64 z, k] 56)) (y : Value) : (W.setCell ⟨g, 2, none⟩ y).heap[g]? = some (.cells #[.string s, .int .i64 z, y] 56) := by
  simp only [World.setCell, Array.getElem?_modify, if_true, h]
  rfl
theorem put6_fm (W : World) (n : Nat) (v0 v1 v2 v3 v4 v5 : Value) : Fm (fun b => b = n) W (put6 W n v0 v1 v2 v3 v4 v5) :=
  ⟨put6_os _ _ _ _ _ _ _ _, put6_tape _ _ _ _ _ _ _ _, put6_output _ _ _ _ _ _ _ _, by rw [put6_size]; exact Nat.le_refl _, fun k _ hk => put6_other _ _ _ _ _ _ _ _ _ hk⟩
theorem put6_st (W : World) (n : Nat) (v0 v1 v2 v3 v4 v5 : Value) (e i : Nat) : St W.heap.size e i ((put6 W n v0 v1 v2 v3 v4 v5).alloc (.cells #[.int .i64 (e : Int), .int .i64 (i : Int)] 62)) := by
  have h := St.new (put6 W n v0 v1 v2 v3 v4 v5) e i
  rw [put6_size] at h
  exact h
theorem wher_dot : wher (fun x => !decide (x = 10)) = dot := by
  apply ext_mem
  intro x hx
  unfold dot
  rw [mem_wher _ _ hx, mem_neg, mem_range _ _ _ hx]
  by_cases h : x = 10
  · subst h; simp
  · rw [decide_eq_false h]; simp; omega
theorem wher_one (b : Nat) : wher (fun x => decide (x = b)) = range b b := by
  apply ext_mem
  intro x hx
  rw [mem_wher _ _ hx, mem_range _ _ _ hx]
  by_cases h : x = b
  · subst h; simp
  · rw [decide_eq_false h]; simp; omega
theorem setR_none (s : ByteArray) (i : Nat) (h : bt s i = 93) : setR s i = (1, Cls.empty, i + 1, 0) := by
  unfold setR
  rw [if_neg (by omega)]
  unfold itemsR
  rw [if_pos h]
  unfold setE
  simp
set_option maxHeartbeats 2000000 in
theorem clos76 (x : Nat) (W : World) : Calls Try.prog 76 (#[.int .i64 (x : Int)] ++ #[]) W fun e w' => e = .returned (.bool (!decide (x = 10))) ∧ Below W.heap.size W w' := by
  show Calls Try.prog 76 #[.int .i64 (x : Int)] W _
  have hb : ((x : Int) != 10) = !decide (x = 10) := by
    by_cases h : x = 10
    · subst h; rfl
    · rw [decide_eq_false h]; simp; omega
  go_enter Try.func76, Try.ntmps76
  go_wp2_with fail
  go_ret
  exact ⟨rfl, Below.refl _ _⟩
set_option maxHeartbeats 2000000 in
theorem clos79 (x b : Nat) (g : Nat) (W : World) (hb : W.heap[g]? = some (.cells #[.int .i64 (b : Int)] 3)) : Calls Try.prog 79 (#[.int .i64 (x : Int)] ++ #[.pointer (some ⟨g, 0, none⟩)]) W fun e w' => e = .returned (.bool (decide (x = b))) ∧ Below W.heap.size W w' := by
  show Calls Try.prog 79 #[.int .i64 (x : Int), .pointer (some ⟨g, 0, none⟩)] W _
  have c0 := cnt_cell hb
  have hbb : ((x : Int) == (b : Int)) = decide (x = b) := by
    by_cases h : x = b
    · subst h; simp
    · rw [decide_eq_false h]; simp; omega
  clear hb
  go_enter Try.func79, Try.ntmps79
  go_wp2_with fail
  go_ret
  exact ⟨rfl, Below.refl _ _⟩
set_option maxHeartbeats 8000000 in
set_option maxRecDepth 20000 in
theorem ratom_any (s : ByteArray) (hs : s.size ≤ 300) (kn : Nat) (hkn : kn ≤ 30) (A : Nat → Res) (hGo : Goes s A) (hA : kn < 30 → QC 28 s (.int .i64 ((kn : Int) + 1)) A) (hK : KC s (.int .i64 (kn : Int))) : QC 68 s (.int .i64 (kn : Int)) (atomR s (groupR s kn A)) := by
  intro g i w hP hi
  have hlt := hP.lt
  have HA : Hid (kn < 30 → QC 28 s (.int .i64 ((kn : Int) + 1)) A) := hA
  have HK : Hid (KC s (.int .i64 (kn : Int))) := hK
  have HGO : Hid (Goes s A) := hGo
  obtain ⟨n, HN⟩ : ∃ n, Hid (w.heap.size = n) := ⟨_, (rfl : w.heap.size = w.heap.size)⟩
  obtain ⟨W0, HW⟩ : ∃ W0, Hid (w.alloc (.cells #[.int .i64 0, .int .u64 0, .int .u64 0, .int .u64 0, .int .u64 0, .slice none 0 0] 27) = W0) := ⟨_, (rfl : _ = _)⟩
  have hB0 : Below w.heap.size w W0 := HW.out ▸ bal_ _ _
  have hnw : w.heap.size ≤ n := by rw [HN.out]; exact Nat.le_refl _
  have HPW0 : Hid (Pt g s i (.int .i64 (kn : Int)) W0) := hP.next hB0
  have HGW0 : Hid (Fm (fun b => b = g) w W0) := Fm.of hB0
  have HNW0 : Hid (W0.heap[n]? = some (.cells #[.int .i64 0, .int .u64 0, .int .u64 0, .int .u64 0, .int .u64 0, .slice none 0 0] 27)) := by
    show _ = _
    rw [← HN.out, ← HW.out]; exact block_new w _
  obtain ⟨rr, HRR⟩ : ∃ rr, Hid (atomR s (groupR s kn A) i = rr) := ⟨_, (rfl : atomR s (groupR s kn A) i = atomR s (groupR s kn A) i)⟩
  rw [HRR.out]
  obtain ⟨p0, HP0⟩ : ∃ p0, Hid (pk s i = p0) := ⟨_, (rfl : pk s i = pk s i)⟩
  have hp0 := pk_in s i
  have h40 := pk_is s i 40 (by omega)
  have h91 := pk_is s i 91 (by omega)
  have h46 := pk_is s i 46 (by omega)
  rw [HP0.out] at hp0 h40 h91 h46
  clear hP hB0 hA hK hGo
  go_enter Try.func68, Try.ntmps68
  go_upto_region 1 with fail
  rw [HN.out, HW.out]
  clear HN HW
  go_wp2_with fail
  refine (peek_any g s (i) (.int .i64 (kn : Int)) _ HPW0.out).mono ?_
  rintro _ w1 ⟨rfl, hb⟩
  have HPw1 : Hid (Pt g s (i) (.int .i64 (kn : Int)) w1) := HPW0.out.next hb
  have HGw1 : Hid (Fm (fun b => b = g) w w1) := HGW0.out.trans (Fm.of (X := fun b => b = g) hb) fun _ _ e => e
  have HNw1 : Hid (w1.heap[n]? = some (.cells #[.int .i64 0, .int .u64 0, .int .u64 0, .int .u64 0, .int .u64 0, .slice none 0 0] 27)) := (hb.block n (in_heap HNW0.out)).trans HNW0.out
  clear hb
  rw [HP0.out]
  by_cases e40 : p0 = 40
  · have hb40 := h40.1 e40
    have hil : i < s.size := bt_is hb40 (by decide)
    have HRA : Hid (rr = groupR s kn A i) := by show _ = _; rw [← HRR.out]; unfold atomR; rw [if_pos hb40]
    subst e40
    clear hb40 h40 h91 h46 hp0 HP0 HRR
    by_cases h30 : kn = 30
    · subst h30
      have HF : Hid (rr = (.mk 0 empty [], i, 7)) := by show _ = _; rw [HRA.out]; unfold groupR; rw [if_pos rfl]
      clear HRA HA HK HGO
      have c1 := HPw1.out.cells.1.2.1
      have c2 := HPw1.out.cells.1.2.2
      have hbn := HNw1.out
      obtain ⟨⟨z0, z1, z2, z3, z4, z5⟩, zf0, zf1, zf2, zf3, zf4, zf5⟩ := block6 hbn
      have HBE : Hid ((w1.alloc (.cells #[.int .i64 7, .int .i64 (i : Int)] 62)).heap[n]? = some (.cells #[.int .i64 0, .int .u64 0, .int .u64 0, .int .u64 0, .int .u64 0, .slice none 0 0] 27)) := (Below.heap_alloc _ _ _ (in_heap hbn)).trans hbn
      have hbnE : (w1.alloc (.cells #[.int .i64 7, .int .i64 (i : Int)] 62)).heap[n]? = some (.cells #[.int .i64 0, .int .u64 0, .int .u64 0, .int .u64 0, .int .u64 0, .slice none 0 0] 27) := (Below.heap_alloc _ _ _ (in_heap hbn)).trans hbn
      obtain ⟨⟨e0, e1, e2, e3, e4, e5⟩, ef0, ef1, ef2, ef3, ef4, ef5⟩ := block6 hbnE
      clear hbn hbnE
      go_upto_region 4 with fail
      have hnl := in_heap HNw1.out
      go_region
      obtain ⟨wz, HWZ⟩ : ∃ wz, Hid ((((((((w1.setCell ⟨n, 0, none⟩ (.int .i64 0)).setCell ⟨n, 1, none⟩ (.int .u64 0)).setCell ⟨n, 2, none⟩ (.int .u64 0)).setCell ⟨n, 3, none⟩ (.int .u64 0)).setCell ⟨n, 4, none⟩ (.int .u64 0)).setCell ⟨n, 5, none⟩ (.slice none 0 0)).alloc (.cells #[.int .i64 7, .int .i64 (i : Int)] 62)).drew = wz) := ⟨_, (rfl : _ = _)⟩
      rw [HWZ.out]
      have hfz : Fm (fun b => b = n) w1 wz := by rw [← HWZ.out]; exact ((put6_fm _ n _ _ _ _ _ _).trans (Fm.of (X := fun b => b = n) (bal_ _ _)) fun _ _ e => e).trans (Fm.of (X := fun b => b = n) ((Below.refl _ _).drew)) fun _ _ e => e
      have hbz : wz.heap[n]? = some (.cells #[.int .i64 0, .int .u64 0, .int .u64 0, .int .u64 0, .int .u64 0, .slice none 0 0] 27) := by rw [← HWZ.out]; exact (Below.heap_alloc _ _ _ (Nat.lt_of_lt_of_eq (in_heap HNw1.out) (put6_size w1 n _ _ _ _ _ _).symm)).trans (put6_at HNw1.out _ _ _ _ _ _)
      have hsz : St w1.heap.size 7 i wz := by rw [← HWZ.out]; exact put6_st w1 n _ _ _ _ _ _ 7 i
      have HDN : Hid (Fm (fun b => b = g) w wz ∧ QB s g (.int .i64 ((30 : Nat) : Int)) w.heap.size (fun z => w.heap.size ≤ z ∧ z < wz.heap.size) (.mk 0 empty [], i, 7) (0, Cls.empty, none, 0, 0) (some ⟨w1.heap.size, 0, none⟩) wz) := ⟨HGw1.out.trans hfz fun q hq e => by omega, Or.inr ⟨by simp, _, rfl, hsz, HGw1.out.size, HPw1.out.any.keep hfz (by omega)⟩⟩
      obtain ⟨⟨v0, v1, v2, v3, v4, v5⟩, vf0, vf1, vf2, vf3, vf4, vf5⟩ := block6 hbz
      clear hbz hfz hsz vf0 vf1 vf2 vf3 vf4 vf5 z0 zf0 z1 zf1 z2 zf2 z3 zf3 z4 zf4 z5 zf5 e0 ef0 e1 ef1 e2 ef2 e3 ef3 e4 ef4 e5 ef5
      go_wp2_with fail
      refine bodyPost_ret (v := .tuple #[.agg #[.int .i64 0, .int .u64 0, .int .u64 0, .int .u64 0, .int .u64 0, .slice none 0 0], .pointer (some ⟨w1.heap.size, 0, none⟩)]) (by simp [results, Try.results68, go_sem, v0, v1, v2, v3, v4, v5]) rfl ⟨(0, Cls.empty, none, 0, 0), some ⟨w1.heap.size, 0, none⟩, rfl, HDN.out.1, ?_⟩
      rw [HF.out]
      exact HDN.out.2
    · have hk2 : kn < 30 := by omega
      have hkb : ((kn : Int) == 30) = false := by simp; omega
      have HG2 : Hid (groupR s kn A i = if bt s (i + 1) = 41 then (.mk 2 empty [], i + 2, 0) else if (A (i + 1)).2.2 ≠ 0 then A (i + 1) else if bt s (A (i + 1)).2.1 = 41 then ((A (i + 1)).1, (A (i + 1)).2.1 + 1, 0) else ((A (i + 1)).1, (A (i + 1)).2.1, 6)) := by show _ = _; unfold groupR; rw [if_neg h30]
      clear h30
      have c2 := HPw1.out.cells.1.2.2
      have c1 := HPw1.out.cells.1.2.1
      have f1 := HPw1.out.cells.2.2.1
      obtain ⟨wa, HWwa⟩ : ∃ wa, Hid (w1.setCell ⟨g, 1, none⟩ (.int .i64 ((i : Int) + 1)) = wa) := ⟨_, (rfl : _ = _)⟩
      have hfs : Fm (fun b => b = g) w1 wa := by rw [← HWwa.out]; exact Fm.set _ rfl
      have HPwa : Hid (Pt g s (i + 1) (.int .i64 (kn : Int)) wa) := by
        show Pt _ _ _ _ _
        rw [← HWwa.out]
        have := HPw1.out.set1 (i + 1)
        rw [show (((i + 1 : Nat)) : Int) = (i : Int) + 1 by omega] at this
        exact this
      have HGwa : Hid (Fm (fun b => b = g) w wa) := HGw1.out.trans hfs fun _ _ e => e
      have HNwa : Hid (wa.heap[n]? = some (.cells #[.int .i64 0, .int .u64 0, .int .u64 0, .int .u64 0, .int .u64 0, .slice none 0 0] 27)) := (hfs.block n (in_heap HNw1.out) (by omega)).trans HNw1.out
      clear hfs
      go_upto_region 6 with fail
      rw [HWwa.out]
      clear c1 f1 c2 HWwa HPw1 HGw1 HNw1 hkb
      go_wp2_with fail
      refine (peek_any g s (i + 1) (.int .i64 (kn : Int)) _ HPwa.out).mono ?_
      rintro _ wb ⟨rfl, hb⟩
      have HPwb : Hid (Pt g s (i + 1) (.int .i64 (kn : Int)) wb) := HPwa.out.next hb
      have HGwb : Hid (Fm (fun b => b = g) w wb) := HGwa.out.trans (Fm.of (X := fun b => b = g) hb) fun _ _ e => e
      have HNwb : Hid (wb.heap[n]? = some (.cells #[.int .i64 0, .int .u64 0, .int .u64 0, .int .u64 0, .int .u64 0, .slice none 0 0] 27)) := (hb.block n (in_heap HNwa.out)).trans HNwa.out
      clear hb
      obtain ⟨p1, HP1⟩ : ∃ p1, Hid (pk s (i + 1) = p1) := ⟨_, (rfl : pk s (i + 1) = pk s (i + 1))⟩
      rw [HP1.out]
      have h41 := pk_is s (i + 1) 41 (by omega)
      rw [HP1.out] at h41
      by_cases e41 : p1 = 41
      · have hb41 := h41.1 e41
        have hil2 : i + 1 < s.size := bt_is hb41 (by decide)
        have HF : Hid (rr = (.mk 2 Cls.empty [], i + 2, 0)) := by show _ = _; rw [HRA.out, HG2.out, if_pos hb41]
        subst e41
        clear hb41 h41 HP1
        have c1 := HPwb.out.cells.1.2.1
        have f1 := HPwb.out.cells.2.2.1
        obtain ⟨wc, HWwc⟩ : ∃ wc, Hid (wb.setCell ⟨g, 1, none⟩ (.int .i64 (((i : Int) + 1) + 1)) = wc) := ⟨_, (rfl : _ = _)⟩
        have hfs : Fm (fun b => b = g) wb wc := by rw [← HWwc.out]; exact Fm.set _ rfl
        have HPwc : Hid (Pt g s (i + 2) (.int .i64 (kn : Int)) wc) := by
          show Pt _ _ _ _ _
          rw [← HWwc.out]
          have := HPwb.out.set1 (i + 2)
          rw [show (((i + 2 : Nat)) : Int) = ((i : Int) + 1) + 1 by omega] at this
          exact this
        have HGwc : Hid (Fm (fun b => b = g) w wc) := HGwb.out.trans hfs fun _ _ e => e
        have HNwc : Hid (wc.heap[n]? = some (.cells #[.int .i64 0, .int .u64 0, .int .u64 0, .int .u64 0, .int .u64 0, .slice none 0 0] 27)) := (hfs.block n (in_heap HNwb.out) (by omega)).trans HNwb.out
        clear hfs
        go_upto_region 8 with fail
        rw [HWwc.out]
        clear c1 f1 HWwc
        have HQB : Hid (QB s g (.int .i64 (kn : Int)) w.heap.size (fun z => w.heap.size ≤ z ∧ z ≠ n ∧ z < wc.heap.size) (.mk 2 Cls.empty [], i + 2, 0) (2, Cls.empty, none, 0, 0) none wc) := Or.inl ⟨rfl, rfl, ⟨_, Al.refl _, Ry.leaf 2 Cls.empty (by omega)⟩, HPwc.out⟩
        obtain ⟨wz, HWZ⟩ : ∃ wz, Hid (((((((wc.setCell ⟨n, 0, none⟩ (.int .i64 2)).setCell ⟨n, 1, none⟩ (.int .u64 0)).setCell ⟨n, 2, none⟩ (.int .u64 0)).setCell ⟨n, 3, none⟩ (.int .u64 0)).setCell ⟨n, 4, none⟩ (.int .u64 0)).setCell ⟨n, 5, none⟩ (.slice none 0 0)) = wz) := ⟨_, (rfl : _ = _)⟩
        have HDN : Hid (Fm (fun b => b = g) w wz ∧ QB s g (.int .i64 (kn : Int)) w.heap.size (fun z => w.heap.size ≤ z ∧ z < wz.heap.size) (.mk 2 Cls.empty [], i + 2, 0) (2, Cls.empty, none, 0, 0) none wz) := doneQ hlt hnw HGwc.out HNwc.out HQB.out HWZ.out
        have hbn := HNwc.out
        have hbz : wz.heap[n]? = some (.cells #[.int .i64 2, .int .u64 0, .int .u64 0, .int .u64 0, .int .u64 0, .slice none 0 0] 27) := by rw [← HWZ.out]; exact put6_at hbn _ _ _ _ _ _
        obtain ⟨⟨z0, z1, z2, z3, z4, z5⟩, zf0, zf1, zf2, zf3, zf4, zf5⟩ := block6 hbn
        obtain ⟨⟨v0, v1, v2, v3, v4, v5⟩, vf0, vf1, vf2, vf3, vf4, vf5⟩ := block6 hbz
        clear hbn hbz vf0 vf1 vf2 vf3 vf4 vf5
        go_wp2_with fail
        rw [HWZ.out]
        refine bodyPost_ret (v := .tuple #[.agg #[.int .i64 2, .int .u64 0, .int .u64 0, .int .u64 0, .int .u64 0, .slice none 0 0], .pointer none]) (by simp [results, Try.results68, go_sem, v0, v1, v2, v3, v4, v5]) rfl ⟨(2, Cls.empty, none, 0, 0), none, rfl, HDN.out.1, ?_⟩
        rw [HF.out]
        exact HDN.out.2
      · have e41b : (p1 == 41) = false := by simpa using e41
        have hb41 : ¬ bt s (i + 1) = 41 := fun e => e41 (h41.2 e)
        have HG3 : Hid (rr = if (A (i + 1)).2.2 ≠ 0 then A (i + 1) else if bt s (A (i + 1)).2.1 = 41 then ((A (i + 1)).1, (A (i + 1)).2.1 + 1, 0) else ((A (i + 1)).1, (A (i + 1)).2.1, 6)) := by show _ = _; rw [HRA.out, HG2.out, if_neg hb41]
        clear h41 hb41 HRA HG2 e41 HP1
        have c2 := HPwb.out.cells.1.2.2
        have f2 := HPwb.out.cells.2.2.2
        obtain ⟨wc, HWwc⟩ : ∃ wc, Hid (wb.setCell ⟨g, 2, none⟩ (.int .i64 ((kn : Int) + 1)) = wc) := ⟨_, (rfl : _ = _)⟩
        have hfs : Fm (fun b => b = g) wb wc := by rw [← HWwc.out]; exact Fm.set _ rfl
        have hpc : Pt g s (i + 1) (.int .i64 ((kn : Int) + 1)) wc := by rw [← HWwc.out]; exact HPwb.out.set2 _
        have HGwc : Hid (Fm (fun b => b = g) w wc) := HGwb.out.trans hfs fun _ _ e => e
        have HNwc : Hid (wc.heap[n]? = some (.cells #[.int .i64 0, .int .u64 0, .int .u64 0, .int .u64 0, .int .u64 0, .slice none 0 0] 27)) := (hfs.block n (in_heap HNwb.out) (by omega)).trans HNwb.out
        have hcall := HA.out hk2 g (i + 1) wc hpc (by omega)
        have hgo := HGO.out (i + 1) (by omega)
        obtain ⟨y, HY⟩ : ∃ y, Hid (A (i + 1) = y) := ⟨_, (rfl : A (i + 1) = A (i + 1))⟩
        rw [HY.out] at hcall hgo HG3
        clear hfs hpc HA HGO
        go_upto_region 10 with fail
        rw [HWwc.out]
        clear c2 f2 HWwc HPwb HGwb HNwb e41b
        go_upto_region 11 with (go_at_call 28; refine hcall.mono ?_; rintro _ wd ⟨q, b, rfl, hfd, hqd⟩)
        obtain ⟨m, HM⟩ : ∃ m, Hid (wd.heap.size = m) := ⟨_, (rfl : wd.heap.size = wd.heap.size)⟩
        obtain ⟨we, HWE⟩ : ∃ we, Hid (wd.alloc (.cells #[.int .i64 q.1, .int .u64 (q.2.1.1.toNat : Int), .int .u64 (q.2.1.2.1.toNat : Int), .int .u64 (q.2.1.2.2.1.toNat : Int), .int .u64 (q.2.1.2.2.2.toNat : Int), .slice q.2.2.1 q.2.2.2.1 q.2.2.2.2] 27) = we) := ⟨_, (rfl : _ = _)⟩
        rw [HM.out, HWE.out]
        have hBe : Below wd.heap.size wd we := HWE.out ▸ bal_ _ _
        have hbme : we.heap[m]? = some (.cells #[.int .i64 q.1, .int .u64 (q.2.1.1.toNat : Int), .int .u64 (q.2.1.2.1.toNat : Int), .int .u64 (q.2.1.2.2.1.toNat : Int), .int .u64 (q.2.1.2.2.2.toNat : Int), .slice q.2.2.1 q.2.2.2.1 q.2.2.2.2] 27) := by rw [← HM.out, ← HWE.out]; exact block_new wd _
        have hfe : Fm (fun b => b = g) wc we := hfd.trans (Fm.of (X := fun b => b = g) hBe) fun _ _ e => e
        have HGwe : Hid (Fm (fun b => b = g) w we) := HGwc.out.trans hfe fun _ _ e => e
        have HNwe : Hid (we.heap[n]? = some (.cells #[.int .i64 0, .int .u64 0, .int .u64 0, .int .u64 0, .int .u64 0, .slice none 0 0] 27)) := (hfe.block n (in_heap HNwc.out) (by omega)).trans HNwc.out
        have hsw := HGwc.out.size
        have hnc := in_heap HNwc.out
        have hsd := hfd.size
        have hmw : w.heap.size ≤ m := by rw [← HM.out]; omega
        have hnm : n ≠ m := by rw [← HM.out]; omega
        have HQ : Hid (QB s g (.int .i64 ((kn : Int) + 1)) w.heap.size (fun z => w.heap.size ≤ z ∧ z ≠ n ∧ z ≠ m ∧ z < we.heap.size) y q b we) := hqd.move (by omega) (fun z hz => ⟨by omega, by omega, by rw [HM.out] at hz; omega, Nat.lt_of_lt_of_le hz.2 hBe.size⟩) (hBe.block g (by omega)) (fun z hz => hBe.block z hz.2) (fun z u v hs _ => hBe.block z hs.lt)
        clear hcall hqd hfd hBe hfe hsd hnc HM HWE HGwc HNwc
        rcases HQ.out with ⟨he, hbb, ⟨t', hal, hry⟩, hps⟩ | ⟨he, st, hbb, hst, hsl, zz, hzz⟩
        · subst hbb
          have HAL : Hid (Al y.1 t') := hal
          have HRY : Hid (Ry we (fun z => w.heap.size ≤ z ∧ z ≠ n ∧ z ≠ m ∧ z < we.heap.size) (v6 q) t') := hry
          have hg2 := hgo.2.1
          have c2 := hps.cells.1.2.2
          have f2 := hps.cells.2.2.2
          obtain ⟨wf, HWwf⟩ : ∃ wf, Hid (we.setCell ⟨g, 2, none⟩ (.int .i64 (kn : Int)) = wf) := ⟨_, (rfl : _ = _)⟩
          have hfs : Fm (fun b => b = g) we wf := by rw [← HWwf.out]; exact Fm.set _ rfl
          have HPwf : Hid (Pt g s (y.2.1) (.int .i64 (kn : Int)) wf) := by
            show Pt _ _ _ _ _
            rw [← HWwf.out]; exact hps.set2 _
          have HGwf : Hid (Fm (fun b => b = g) w wf) := HGwe.out.trans hfs fun _ _ e => e
          have HNwf : Hid (wf.heap[n]? = some (.cells #[.int .i64 0, .int .u64 0, .int .u64 0, .int .u64 0, .int .u64 0, .slice none 0 0] 27)) := (hfs.block n (in_heap HNwe.out) (by omega)).trans HNwe.out
          have HMwf : Hid (wf.heap[m]? = some (.cells #[.int .i64 q.1, .int .u64 (q.2.1.1.toNat : Int), .int .u64 (q.2.1.2.1.toNat : Int), .int .u64 (q.2.1.2.2.1.toNat : Int), .int .u64 (q.2.1.2.2.2.toNat : Int), .slice q.2.2.1 q.2.2.2.1 q.2.2.2.2] 27)) := (hfs.block m (in_heap hbme) (by omega)).trans hbme
          have HRYwf : Hid (Ry wf (fun z => w.heap.size ≤ z ∧ z ≠ n ∧ z ≠ m ∧ z < wf.heap.size) (v6 q) t') := HRY.out.move (fun z hz => ⟨hz.1, hz.2.1, hz.2.2.1, Nat.lt_of_lt_of_le hz.2.2.2 hfs.size⟩) (fun z hz => hfs.block z hz.2.2.2 (by omega))
          clear hfs hbme hps hry hal HRY
          rw [if_neg (by simp [he])] at HG3
          go_upto_region 12 with fail
          rw [HWwf.out]
          clear c2 f2 HWwf HQ HGwe HNwe
          go_wp2_with fail
          refine (peek_any g s (y.2.1) (.int .i64 (kn : Int)) _ HPwf.out).mono ?_
          rintro _ wp ⟨rfl, hb⟩
          have HPwp : Hid (Pt g s (y.2.1) (.int .i64 (kn : Int)) wp) := HPwf.out.next hb
          have HGwp : Hid (Fm (fun b => b = g) w wp) := HGwf.out.trans (Fm.of (X := fun b => b = g) hb) fun _ _ e => e
          have HNwp : Hid (wp.heap[n]? = some (.cells #[.int .i64 0, .int .u64 0, .int .u64 0, .int .u64 0, .int .u64 0, .slice none 0 0] 27)) := (hb.block n (in_heap HNwf.out)).trans HNwf.out
          have HMwp : Hid (wp.heap[m]? = some (.cells #[.int .i64 q.1, .int .u64 (q.2.1.1.toNat : Int), .int .u64 (q.2.1.2.1.toNat : Int), .int .u64 (q.2.1.2.2.1.toNat : Int), .int .u64 (q.2.1.2.2.2.toNat : Int), .slice q.2.2.1 q.2.2.2.1 q.2.2.2.2] 27)) := (hb.block m (in_heap HMwf.out)).trans HMwf.out
          have HRYwp : Hid (Ry wp (fun z => w.heap.size ≤ z ∧ z ≠ n ∧ z ≠ m ∧ z < wp.heap.size) (v6 q) t') := HRYwf.out.move (fun z hz => ⟨hz.1, hz.2.1, hz.2.2.1, Nat.lt_of_lt_of_le hz.2.2.2 hb.size⟩) (fun z hz => hb.block z hz.2.2.2)
          clear hb HPwf HGwf HNwf HMwf HRYwf
          obtain ⟨p2, HP2⟩ : ∃ p2, Hid (pk s (y.2.1) = p2) := ⟨_, (rfl : pk s (y.2.1) = pk s (y.2.1))⟩
          rw [HP2.out]
          have h41 := pk_is s (y.2.1) 41 (by omega)
          rw [HP2.out] at h41
          by_cases e41 : p2 = 41
          · have hb41 := h41.1 e41
            have hil2 : y.2.1 < s.size := bt_is hb41 (by decide)
            have HF : Hid (rr = (y.1, y.2.1 + 1, 0)) := by show _ = _; rw [HG3.out, if_pos hb41]
            subst e41
            clear hb41 h41 HP2 HG3
            have c1 := HPwp.out.cells.1.2.1
            have f1 := HPwp.out.cells.2.2.1
            obtain ⟨wv, HWwv⟩ : ∃ wv, Hid (wp.setCell ⟨g, 1, none⟩ (.int .i64 ((y.2.1 : Int) + 1)) = wv) := ⟨_, (rfl : _ = _)⟩
            have hfs : Fm (fun b => b = g) wp wv := by rw [← HWwv.out]; exact Fm.set _ rfl
            have HPwv : Hid (Pt g s (y.2.1 + 1) (.int .i64 (kn : Int)) wv) := by
              show Pt _ _ _ _ _
              rw [← HWwv.out]
              have := HPwp.out.set1 (y.2.1 + 1)
              rw [show (((y.2.1 + 1 : Nat)) : Int) = (y.2.1 : Int) + 1 by omega] at this
              exact this
            have HGwv : Hid (Fm (fun b => b = g) w wv) := HGwp.out.trans hfs fun _ _ e => e
            have HNwv : Hid (wv.heap[n]? = some (.cells #[.int .i64 0, .int .u64 0, .int .u64 0, .int .u64 0, .int .u64 0, .slice none 0 0] 27)) := (hfs.block n (in_heap HNwp.out) (by omega)).trans HNwp.out
            have hbm : wv.heap[m]? = some (.cells #[.int .i64 q.1, .int .u64 (q.2.1.1.toNat : Int), .int .u64 (q.2.1.2.1.toNat : Int), .int .u64 (q.2.1.2.2.1.toNat : Int), .int .u64 (q.2.1.2.2.2.toNat : Int), .slice q.2.2.1 q.2.2.2.1 q.2.2.2.2] 27) := (hfs.block m (in_heap HMwp.out) (by omega)).trans HMwp.out
            have HRYwv : Hid (Ry wv (fun z => w.heap.size ≤ z ∧ z ≠ n ∧ z < wv.heap.size) (v6 q) t') := (HRYwp.out.move (fun z hz => ⟨hz.1, hz.2.1, Nat.lt_of_lt_of_le hz.2.2.2 (hfs).size⟩) (fun z hz => (hfs).block z hz.2.2.2 (by omega)))
            clear hfs
            go_upto_region 15 with fail
            rw [HWwv.out]
            clear c1 f1 HWwv
            have HQB : Hid (QB s g (.int .i64 (kn : Int)) w.heap.size (fun z => w.heap.size ≤ z ∧ z ≠ n ∧ z < wv.heap.size) (y.1, y.2.1 + 1, 0) q none wv) := Or.inl ⟨rfl, rfl, ⟨t', HAL.out, HRYwv.out⟩, HPwv.out⟩
            obtain ⟨wz, HWZ⟩ : ∃ wz, Hid (((((((wv.setCell ⟨n, 0, none⟩ (.int .i64 q.1)).setCell ⟨n, 1, none⟩ (.int .u64 (q.2.1.1.toNat : Int))).setCell ⟨n, 2, none⟩ (.int .u64 (q.2.1.2.1.toNat : Int))).setCell ⟨n, 3, none⟩ (.int .u64 (q.2.1.2.2.1.toNat : Int))).setCell ⟨n, 4, none⟩ (.int .u64 (q.2.1.2.2.2.toNat : Int))).setCell ⟨n, 5, none⟩ (.slice q.2.2.1 q.2.2.2.1 q.2.2.2.2)) = wz) := ⟨_, (rfl : _ = _)⟩
            have HDN : Hid (Fm (fun b => b = g) w wz ∧ QB s g (.int .i64 (kn : Int)) w.heap.size (fun z => w.heap.size ≤ z ∧ z < wz.heap.size) (y.1, y.2.1 + 1, 0) q none wz) := doneQ hlt hnw HGwv.out HNwv.out HQB.out HWZ.out
            have hbn := HNwv.out
            have hbz : wz.heap[n]? = some (.cells #[.int .i64 q.1, .int .u64 (q.2.1.1.toNat : Int), .int .u64 (q.2.1.2.1.toNat : Int), .int .u64 (q.2.1.2.2.1.toNat : Int), .int .u64 (q.2.1.2.2.2.toNat : Int), .slice q.2.2.1 q.2.2.2.1 q.2.2.2.2] 27) := by rw [← HWZ.out]; exact put6_at hbn _ _ _ _ _ _
            obtain ⟨⟨d0, d1, d2, d3, d4, d5⟩, df0, df1, df2, df3, df4, df5⟩ := block6 hbm
            obtain ⟨⟨z0, z1, z2, z3, z4, z5⟩, zf0, zf1, zf2, zf3, zf4, zf5⟩ := block6 hbn
            obtain ⟨⟨v0, v1, v2, v3, v4, v5⟩, vf0, vf1, vf2, vf3, vf4, vf5⟩ := block6 hbz
            clear hbn hbz vf0 vf1 vf2 vf3 vf4 vf5
            go_wp2_with fail
            rw [HWZ.out]
            refine bodyPost_ret (v := .tuple #[.agg #[.int .i64 q.1, .int .u64 (q.2.1.1.toNat : Int), .int .u64 (q.2.1.2.1.toNat : Int), .int .u64 (q.2.1.2.2.1.toNat : Int), .int .u64 (q.2.1.2.2.2.toNat : Int), .slice q.2.2.1 q.2.2.2.1 q.2.2.2.2], .pointer none]) (by simp [results, Try.results68, go_sem, v0, v1, v2, v3, v4, v5]) rfl ⟨q, none, rfl, HDN.out.1, ?_⟩
            rw [HF.out]
            exact HDN.out.2
          · have e41b : (p2 != 41) = true := by simpa using e41
            have HF : Hid (rr = (y.1, y.2.1, 6)) := by show _ = _; rw [HG3.out, if_neg (fun e => e41 (h41.2 e))]
            clear h41 HP2 HG3 e41
            go_wp2_with fail
            refine (wrong_any g s (y.2.1) (.int .i64 (kn : Int)) _ HPwp.out).mono ?_
            rintro _ wx ⟨rfl, hwx⟩
            rw [hwx]
            obtain ⟨st, HST⟩ : ∃ st, Hid (wp.heap.size = st) := ⟨_, (rfl : wp.heap.size = wp.heap.size)⟩
            obtain ⟨wy, HWY⟩ : ∃ wy, Hid (wp.alloc (.cells #[.int .i64 6, .int .i64 (y.2.1 : Int)] 62) = wy) := ⟨_, (rfl : _ = _)⟩
            rw [HST.out, HWY.out]
            have hb : Below wp.heap.size wp wy := HWY.out ▸ bal_ _ _
            have hsty : St st 6 y.2.1 wy := by rw [← HST.out, ← HWY.out]; exact St.new wp 6 y.2.1
            have HPwy : Hid (Pt g s (y.2.1) (.int .i64 (kn : Int)) wy) := HPwp.out.next hb
            have HGwy : Hid (Fm (fun b => b = g) w wy) := HGwp.out.trans (Fm.of (X := fun b => b = g) hb) fun _ _ e => e
            have HNwy : Hid (wy.heap[n]? = some (.cells #[.int .i64 0, .int .u64 0, .int .u64 0, .int .u64 0, .int .u64 0, .slice none 0 0] 27)) := (hb.block n (in_heap HNwp.out)).trans HNwp.out
            have HMwy : Hid (wy.heap[m]? = some (.cells #[.int .i64 q.1, .int .u64 (q.2.1.1.toNat : Int), .int .u64 (q.2.1.2.1.toNat : Int), .int .u64 (q.2.1.2.2.1.toNat : Int), .int .u64 (q.2.1.2.2.2.toNat : Int), .slice q.2.2.1 q.2.2.2.1 q.2.2.2.2] 27)) := (hb.block m (in_heap HMwp.out)).trans HMwp.out
            have hst0 : w.heap.size ≤ st := by rw [← HST.out]; exact HGwp.out.size
            clear hb hwx HPwp HGwp HNwp HMwp HRYwp HWY HST
            have c1 := HPwy.out.cells.1.2.1
            have f1 := HPwy.out.cells.2.2.1
            obtain ⟨wv, HWwv⟩ : ∃ wv, Hid (wy.setCell ⟨g, 1, none⟩ (.int .i64 ((y.2.1 : Int) + 1)) = wv) := ⟨_, (rfl : _ = _)⟩
            have hfs : Fm (fun b => b = g) wy wv := by rw [← HWwv.out]; exact Fm.set _ rfl
            have HPwv : Hid (Pt g s (y.2.1 + 1) (.int .i64 (kn : Int)) wv) := by
              show Pt _ _ _ _ _
              rw [← HWwv.out]
              have := HPwy.out.set1 (y.2.1 + 1)
              rw [show (((y.2.1 + 1 : Nat)) : Int) = (y.2.1 : Int) + 1 by omega] at this
              exact this
            have HGwv : Hid (Fm (fun b => b = g) w wv) := HGwy.out.trans hfs fun _ _ e => e
            have HNwv : Hid (wv.heap[n]? = some (.cells #[.int .i64 0, .int .u64 0, .int .u64 0, .int .u64 0, .int .u64 0, .slice none 0 0] 27)) := (hfs.block n (in_heap HNwy.out) (by omega)).trans HNwy.out
            have hbm : wv.heap[m]? = some (.cells #[.int .i64 q.1, .int .u64 (q.2.1.1.toNat : Int), .int .u64 (q.2.1.2.1.toNat : Int), .int .u64 (q.2.1.2.2.1.toNat : Int), .int .u64 (q.2.1.2.2.2.toNat : Int), .slice q.2.2.1 q.2.2.2.1 q.2.2.2.2] 27) := (hfs.block m (in_heap HMwy.out) (by omega)).trans HMwy.out
            have HSTv : Hid (St st 6 y.2.1 wv) := hsty.keep hfs (by omega)
            clear hfs hsty
            go_upto_region 15 with fail
            rw [HWwv.out]
            clear c1 f1 HWwv
            have HQB : Hid (QB s g (.int .i64 (kn : Int)) w.heap.size (fun z => w.heap.size ≤ z ∧ z ≠ n ∧ z < wv.heap.size) (y.1, y.2.1, 6) q (some ⟨st, 0, none⟩) wv) := Or.inr ⟨by simp, st, rfl, HSTv.out, hst0, HPwv.out.any⟩
            obtain ⟨wz, HWZ⟩ : ∃ wz, Hid (((((((wv.setCell ⟨n, 0, none⟩ (.int .i64 q.1)).setCell ⟨n, 1, none⟩ (.int .u64 (q.2.1.1.toNat : Int))).setCell ⟨n, 2, none⟩ (.int .u64 (q.2.1.2.1.toNat : Int))).setCell ⟨n, 3, none⟩ (.int .u64 (q.2.1.2.2.1.toNat : Int))).setCell ⟨n, 4, none⟩ (.int .u64 (q.2.1.2.2.2.toNat : Int))).setCell ⟨n, 5, none⟩ (.slice q.2.2.1 q.2.2.2.1 q.2.2.2.2)) = wz) := ⟨_, (rfl : _ = _)⟩
            have HDN : Hid (Fm (fun b => b = g) w wz ∧ QB s g (.int .i64 (kn : Int)) w.heap.size (fun z => w.heap.size ≤ z ∧ z < wz.heap.size) (y.1, y.2.1, 6) q (some ⟨st, 0, none⟩) wz) := doneQ hlt hnw HGwv.out HNwv.out HQB.out HWZ.out
            have hbn := HNwv.out
            have hbz : wz.heap[n]? = some (.cells #[.int .i64 q.1, .int .u64 (q.2.1.1.toNat : Int), .int .u64 (q.2.1.2.1.toNat : Int), .int .u64 (q.2.1.2.2.1.toNat : Int), .int .u64 (q.2.1.2.2.2.toNat : Int), .slice q.2.2.1 q.2.2.2.1 q.2.2.2.2] 27) := by rw [← HWZ.out]; exact put6_at hbn _ _ _ _ _ _
            obtain ⟨⟨d0, d1, d2, d3, d4, d5⟩, df0, df1, df2, df3, df4, df5⟩ := block6 hbm
            obtain ⟨⟨z0, z1, z2, z3, z4, z5⟩, zf0, zf1, zf2, zf3, zf4, zf5⟩ := block6 hbn
            obtain ⟨⟨v0, v1, v2, v3, v4, v5⟩, vf0, vf1, vf2, vf3, vf4, vf5⟩ := block6 hbz
            clear hbn hbz vf0 vf1 vf2 vf3 vf4 vf5
            go_wp2_with fail
            rw [HWZ.out]
            refine bodyPost_ret (v := .tuple #[.agg #[.int .i64 q.1, .int .u64 (q.2.1.1.toNat : Int), .int .u64 (q.2.1.2.1.toNat : Int), .int .u64 (q.2.1.2.2.1.toNat : Int), .int .u64 (q.2.1.2.2.2.toNat : Int), .slice q.2.2.1 q.2.2.2.1 q.2.2.2.2], .pointer (some ⟨st, 0, none⟩)]) (by simp [results, Try.results68, go_sem, v0, v1, v2, v3, v4, v5]) rfl ⟨q, (some ⟨st, 0, none⟩), rfl, HDN.out.1, ?_⟩
            rw [HF.out]
            exact HDN.out.2
        · subst hbb
          have HF : Hid (rr = y) := by show _ = _; rw [HG3.out, if_pos he]
          obtain ⟨⟨-, c2⟩, -, f2⟩ := Pq.cells hzz
          obtain ⟨wf, HWwf⟩ : ∃ wf, Hid (we.setCell ⟨g, 2, none⟩ (.int .i64 (kn : Int)) = wf) := ⟨_, (rfl : _ = _)⟩
          have hfs : Fm (fun b => b = g) we wf := by rw [← HWwf.out]; exact Fm.set _ rfl
          have hz2 : wf.heap[g]? = some (.cells #[.string s, .int .i64 zz, (.int .i64 (kn : Int))] 56) := by rw [← HWwf.out]; exact Pq.set2 hzz _
          go_upto_region 12 with fail
          rw [HWwf.out]
          clear c2 f2 HWwf
          obtain ⟨⟨c1, -⟩, f1, -⟩ := Pq.cells hz2
          obtain ⟨wv, HWwv⟩ : ∃ wv, Hid (wf.setCell ⟨g, 1, none⟩ (.int .i64 (wrap64 (zz + 1))) = wv) := ⟨_, (rfl : _ = _)⟩
          have hfv : Fm (fun b => b = g) we wv := hfs.trans (by rw [← HWwv.out]; exact Fm.set (X := fun b => b = g) _ rfl) fun _ _ e => e
          have HPQ : Hid (Pq g s (.int .i64 (kn : Int)) wv) := by
            show Pq _ _ _ _
            rw [← HWwv.out]; exact ⟨_, Pq.set1 hz2 _⟩
          have HGwv : Hid (Fm (fun b => b = g) w wv) := HGwe.out.trans hfv fun _ _ e => e
          have HNwv : Hid (wv.heap[n]? = some (.cells #[.int .i64 0, .int .u64 0, .int .u64 0, .int .u64 0, .int .u64 0, .slice none 0 0] 27)) := (hfv.block n (in_heap HNwe.out) (by omega)).trans HNwe.out
          have hbm : wv.heap[m]? = some (.cells #[.int .i64 q.1, .int .u64 (q.2.1.1.toNat : Int), .int .u64 (q.2.1.2.1.toNat : Int), .int .u64 (q.2.1.2.2.1.toNat : Int), .int .u64 (q.2.1.2.2.2.toNat : Int), .slice q.2.2.1 q.2.2.2.1 q.2.2.2.2] 27) := (hfv.block m (in_heap hbme) (by omega)).trans hbme
          have HSTv : Hid (St st y.2.2 y.2.1 wv) := hst.keep hfv (by omega)
          have HHE : Hid (y.2.2 ≠ 0) := he
          clear hfs hfv hz2 hzz hst he HQ HGwe HNwe hbme HG3
          go_upto_region 15 with fail
          rw [HWwv.out]
          clear c1 f1 HWwv
          have HQB : Hid (QB s g (.int .i64 (kn : Int)) w.heap.size (fun z => w.heap.size ≤ z ∧ z ≠ n ∧ z < wv.heap.size) y q (some ⟨st, 0, none⟩) wv) := Or.inr ⟨HHE.out, st, rfl, HSTv.out, hsl, HPQ.out⟩
          obtain ⟨wz, HWZ⟩ : ∃ wz, Hid (((((((wv.setCell ⟨n, 0, none⟩ (.int .i64 q.1)).setCell ⟨n, 1, none⟩ (.int .u64 (q.2.1.1.toNat : Int))).setCell ⟨n, 2, none⟩ (.int .u64 (q.2.1.2.1.toNat : Int))).setCell ⟨n, 3, none⟩ (.int .u64 (q.2.1.2.2.1.toNat : Int))).setCell ⟨n, 4, none⟩ (.int .u64 (q.2.1.2.2.2.toNat : Int))).setCell ⟨n, 5, none⟩ (.slice q.2.2.1 q.2.2.2.1 q.2.2.2.2)) = wz) := ⟨_, (rfl : _ = _)⟩
          have HDN : Hid (Fm (fun b => b = g) w wz ∧ QB s g (.int .i64 (kn : Int)) w.heap.size (fun z => w.heap.size ≤ z ∧ z < wz.heap.size) y q (some ⟨st, 0, none⟩) wz) := doneQ hlt hnw HGwv.out HNwv.out HQB.out HWZ.out
          have hbn := HNwv.out
          have hbz : wz.heap[n]? = some (.cells #[.int .i64 q.1, .int .u64 (q.2.1.1.toNat : Int), .int .u64 (q.2.1.2.1.toNat : Int), .int .u64 (q.2.1.2.2.1.toNat : Int), .int .u64 (q.2.1.2.2.2.toNat : Int), .slice q.2.2.1 q.2.2.2.1 q.2.2.2.2] 27) := by rw [← HWZ.out]; exact put6_at hbn _ _ _ _ _ _
          obtain ⟨⟨d0, d1, d2, d3, d4, d5⟩, df0, df1, df2, df3, df4, df5⟩ := block6 hbm
          obtain ⟨⟨z0, z1, z2, z3, z4, z5⟩, zf0, zf1, zf2, zf3, zf4, zf5⟩ := block6 hbn
          obtain ⟨⟨v0, v1, v2, v3, v4, v5⟩, vf0, vf1, vf2, vf3, vf4, vf5⟩ := block6 hbz
          clear hbn hbz vf0 vf1 vf2 vf3 vf4 vf5
          go_wp2_with fail
          rw [HWZ.out]
          refine bodyPost_ret (v := .tuple #[.agg #[.int .i64 q.1, .int .u64 (q.2.1.1.toNat : Int), .int .u64 (q.2.1.2.1.toNat : Int), .int .u64 (q.2.1.2.2.1.toNat : Int), .int .u64 (q.2.1.2.2.2.toNat : Int), .slice q.2.2.1 q.2.2.2.1 q.2.2.2.2], .pointer (some ⟨st, 0, none⟩)]) (by simp [results, Try.results68, go_sem, v0, v1, v2, v3, v4, v5]) rfl ⟨q, (some ⟨st, 0, none⟩), rfl, HDN.out.1, ?_⟩
          rw [HF.out]
          exact HDN.out.2
  · have e40b : (p0 == 40) = false := by simpa using e40
    have hn40 : ¬ bt s i = 40 := fun e => e40 (h40.2 e)
    by_cases e46 : p0 = 46
    · have hb46 := h46.1 e46
      have hil : i < s.size := bt_is hb46 (by decide)
      have HF : Hid (rr = (.mk 3 dot [], i + 1, 0)) := by show _ = _; rw [← HRR.out]; unfold atomR; rw [if_neg hn40, if_neg (by omega), if_pos hb46]
      subst e46
      clear hb46 h40 h91 h46 hp0 HP0 HRR hn40 e40 e40b HA HK HGO
      obtain ⟨D, HDT⟩ : ∃ D, Hid (dot = D) := ⟨_, (rfl : dot = dot)⟩
      rw [HDT.out] at HF
      have c1 := HPw1.out.cells.1.2.1
      have f1 := HPw1.out.cells.2.2.1
      obtain ⟨wa, HWwa⟩ : ∃ wa, Hid (w1.setCell ⟨g, 1, none⟩ (.int .i64 ((i : Int) + 1)) = wa) := ⟨_, (rfl : _ = _)⟩
      have hfs : Fm (fun b => b = g) w1 wa := by rw [← HWwa.out]; exact Fm.set _ rfl
      have HPwa : Hid (Pt g s (i + 1) (.int .i64 (kn : Int)) wa) := by
        show Pt _ _ _ _ _
        rw [← HWwa.out]
        have := HPw1.out.set1 (i + 1)
        rw [show (((i + 1 : Nat)) : Int) = (i : Int) + 1 by omega] at this
        exact this
      have HGwa : Hid (Fm (fun b => b = g) w wa) := HGw1.out.trans hfs fun _ _ e => e
      have HNwa : Hid (wa.heap[n]? = some (.cells #[.int .i64 0, .int .u64 0, .int .u64 0, .int .u64 0, .int .u64 0, .slice none 0 0] 27)) := (hfs.block n (in_heap HNw1.out) (by omega)).trans HNw1.out
      clear hfs
      go_upto_region 18 with fail
      rw [HWwa.out]
      clear c1 f1 HWwa HPw1 HGw1 HNw1
      have hwh := where_any 76 #[] (fun x => !decide (x = 10)) wa (enters_of Try.func76 (by kernel_rfl) rfl) fun W1 x _ _ => clos76 x W1
      rw [wher_dot, HDT.out] at hwh
      go_wp2_with fail
      refine hwh.mono ?_
      rintro _ wb ⟨rfl, hb⟩
      have HPwb : Hid (Pt g s (i + 1) (.int .i64 (kn : Int)) wb) := HPwa.out.next hb
      have HGwb : Hid (Fm (fun b => b = g) w wb) := HGwa.out.trans (Fm.of (X := fun b => b = g) hb) fun _ _ e => e
      have HNwb : Hid (wb.heap[n]? = some (.cells #[.int .i64 0, .int .u64 0, .int .u64 0, .int .u64 0, .int .u64 0, .slice none 0 0] 27)) := (hb.block n (in_heap HNwa.out)).trans HNwa.out
      clear hb hwh HPwa HGwa HNwa
      have HQB : Hid (QB s g (.int .i64 (kn : Int)) w.heap.size (fun z => w.heap.size ≤ z ∧ z ≠ n ∧ z < wb.heap.size) (.mk 3 D [], i + 1, 0) (3, D, none, 0, 0) none wb) := Or.inl ⟨rfl, rfl, ⟨_, Al.refl _, Ry.leaf 3 D (by omega)⟩, HPwb.out⟩
      obtain ⟨wz, HWZ⟩ : ∃ wz, Hid (((((((wb.setCell ⟨n, 0, none⟩ (.int .i64 3)).setCell ⟨n, 1, none⟩ (.int .u64 ((D).1.toNat : Int))).setCell ⟨n, 2, none⟩ (.int .u64 ((D).2.1.toNat : Int))).setCell ⟨n, 3, none⟩ (.int .u64 ((D).2.2.1.toNat : Int))).setCell ⟨n, 4, none⟩ (.int .u64 ((D).2.2.2.toNat : Int))).setCell ⟨n, 5, none⟩ (.slice none 0 0)) = wz) := ⟨_, (rfl : _ = _)⟩
      have HDN : Hid (Fm (fun b => b = g) w wz ∧ QB s g (.int .i64 (kn : Int)) w.heap.size (fun z => w.heap.size ≤ z ∧ z < wz.heap.size) (.mk 3 D [], i + 1, 0) (3, D, none, 0, 0) none wz) := doneQ hlt hnw HGwb.out HNwb.out HQB.out HWZ.out
      have hbn := HNwb.out
      have hbz : wz.heap[n]? = some (.cells #[.int .i64 3, .int .u64 ((D).1.toNat : Int), .int .u64 ((D).2.1.toNat : Int), .int .u64 ((D).2.2.1.toNat : Int), .int .u64 ((D).2.2.2.toNat : Int), .slice none 0 0] 27) := by rw [← HWZ.out]; exact put6_at hbn _ _ _ _ _ _
      obtain ⟨⟨z0, z1, z2, z3, z4, z5⟩, zf0, zf1, zf2, zf3, zf4, zf5⟩ := block6 hbn
      obtain ⟨⟨v0, v1, v2, v3, v4, v5⟩, vf0, vf1, vf2, vf3, vf4, vf5⟩ := block6 hbz
      clear hbn hbz vf0 vf1 vf2 vf3 vf4 vf5
      go_wp2_with fail
      rw [HWZ.out]
      refine bodyPost_ret (v := .tuple #[.agg #[.int .i64 3, .int .u64 ((D).1.toNat : Int), .int .u64 ((D).2.1.toNat : Int), .int .u64 ((D).2.2.1.toNat : Int), .int .u64 ((D).2.2.2.toNat : Int), .slice none 0 0], .pointer none]) (by simp [results, Try.results68, go_sem, v0, v1, v2, v3, v4, v5]) rfl ⟨(3, D, none, 0, 0), none, rfl, HDN.out.1, ?_⟩
      rw [HF.out]
      exact HDN.out.2
    · have e46b : (p0 == 46) = false := by simpa using e46
      have hn46 : ¬ bt s i = 46 := fun e => e46 (h46.2 e)
      by_cases e91 : p0 = 91
      · have hb91 := h91.1 e91
        have hil : i < s.size := bt_is hb91 (by decide)
        have HRA : Hid (rr = (.mk (setR s (i + 1)).1 (setR s (i + 1)).2.1 [], (setR s (i + 1)).2.2.1, (setR s (i + 1)).2.2.2)) := by show _ = _; rw [← HRR.out]; unfold atomR; rw [if_neg hn40, if_pos hb91]
        subst e91
        clear hb91 h40 h91 h46 hp0 HP0 HRR hn40 hn46 e40 e40b e46 e46b HA HGO
        have c1 := HPw1.out.cells.1.2.1
        have f1 := HPw1.out.cells.2.2.1
        obtain ⟨wa, HWwa⟩ : ∃ wa, Hid (w1.setCell ⟨g, 1, none⟩ (.int .i64 ((i : Int) + 1)) = wa) := ⟨_, (rfl : _ = _)⟩
        have hfs : Fm (fun b => b = g) w1 wa := by rw [← HWwa.out]; exact Fm.set _ rfl
        have HPwa : Hid (Pt g s (i + 1) (.int .i64 (kn : Int)) wa) := by
          show Pt _ _ _ _ _
          rw [← HWwa.out]
          have := HPw1.out.set1 (i + 1)
          rw [show (((i + 1 : Nat)) : Int) = (i : Int) + 1 by omega] at this
          exact this
        have HGwa : Hid (Fm (fun b => b = g) w wa) := HGw1.out.trans hfs fun _ _ e => e
        have HNwa : Hid (wa.heap[n]? = some (.cells #[.int .i64 0, .int .u64 0, .int .u64 0, .int .u64 0, .int .u64 0, .slice none 0 0] 27)) := (hfs.block n (in_heap HNw1.out) (by omega)).trans HNw1.out
        clear hfs
        go_upto_region 21 with fail
        rw [HWwa.out]
        clear c1 f1 HWwa HPw1 HGw1 HNw1
        go_wp2_with fail
        refine (peek_any g s (i + 1) (.int .i64 (kn : Int)) _ HPwa.out).mono ?_
        rintro _ wb ⟨rfl, hb⟩
        have HPwb : Hid (Pt g s (i + 1) (.int .i64 (kn : Int)) wb) := HPwa.out.next hb
        have HGwb : Hid (Fm (fun b => b = g) w wb) := HGwa.out.trans (Fm.of (X := fun b => b = g) hb) fun _ _ e => e
        have HNwb : Hid (wb.heap[n]? = some (.cells #[.int .i64 0, .int .u64 0, .int .u64 0, .int .u64 0, .int .u64 0, .slice none 0 0] 27)) := (hb.block n (in_heap HNwa.out)).trans HNwa.out
        clear hb
        obtain ⟨p1, HP1⟩ : ∃ p1, Hid (pk s (i + 1) = p1) := ⟨_, (rfl : pk s (i + 1) = pk s (i + 1))⟩
        rw [HP1.out]
        have h93 := pk_is s (i + 1) 93 (by omega)
        rw [HP1.out] at h93
        clear HPwa HGwa HNwa
        by_cases e93 : p1 = 93
        · have hb93 := h93.1 e93
          have hil2 : i + 1 < s.size := bt_is hb93 (by decide)
          have HF : Hid (rr = (.mk 1 Cls.empty [], i + 2, 0)) := by show _ = _; rw [HRA.out, setR_none s (i + 1) hb93]
          subst e93
          clear hb93 h93 HP1 HRA HK
          have c1 := HPwb.out.cells.1.2.1
          have f1 := HPwb.out.cells.2.2.1
          obtain ⟨wc, HWwc⟩ : ∃ wc, Hid (wb.setCell ⟨g, 1, none⟩ (.int .i64 (((i : Int) + 1) + 1)) = wc) := ⟨_, (rfl : _ = _)⟩
          have hfs : Fm (fun b => b = g) wb wc := by rw [← HWwc.out]; exact Fm.set _ rfl
          have HPwc : Hid (Pt g s (i + 2) (.int .i64 (kn : Int)) wc) := by
            show Pt _ _ _ _ _
            rw [← HWwc.out]
            have := HPwb.out.set1 (i + 2)
            rw [show (((i + 2 : Nat)) : Int) = ((i : Int) + 1) + 1 by omega] at this
            exact this
          have HGwc : Hid (Fm (fun b => b = g) w wc) := HGwb.out.trans hfs fun _ _ e => e
          have HNwc : Hid (wc.heap[n]? = some (.cells #[.int .i64 0, .int .u64 0, .int .u64 0, .int .u64 0, .int .u64 0, .slice none 0 0] 27)) := (hfs.block n (in_heap HNwb.out) (by omega)).trans HNwb.out
          clear hfs
          go_upto_region 23 with fail
          rw [HWwc.out]
          clear c1 f1 HWwc
          have HQB : Hid (QB s g (.int .i64 (kn : Int)) w.heap.size (fun z => w.heap.size ≤ z ∧ z ≠ n ∧ z < wc.heap.size) (.mk 1 Cls.empty [], i + 2, 0) (1, Cls.empty, none, 0, 0) none wc) := Or.inl ⟨rfl, rfl, ⟨_, Al.refl _, Ry.leaf 1 Cls.empty (by omega)⟩, HPwc.out⟩
          obtain ⟨wz, HWZ⟩ : ∃ wz, Hid (((((((wc.setCell ⟨n, 0, none⟩ (.int .i64 1)).setCell ⟨n, 1, none⟩ (.int .u64 0)).setCell ⟨n, 2, none⟩ (.int .u64 0)).setCell ⟨n, 3, none⟩ (.int .u64 0)).setCell ⟨n, 4, none⟩ (.int .u64 0)).setCell ⟨n, 5, none⟩ (.slice none 0 0)) = wz) := ⟨_, (rfl : _ = _)⟩
          have HDN : Hid (Fm (fun b => b = g) w wz ∧ QB s g (.int .i64 (kn : Int)) w.heap.size (fun z => w.heap.size ≤ z ∧ z < wz.heap.size) (.mk 1 Cls.empty [], i + 2, 0) (1, Cls.empty, none, 0, 0) none wz) := doneQ hlt hnw HGwc.out HNwc.out HQB.out HWZ.out
          have hbn := HNwc.out
          have hbz : wz.heap[n]? = some (.cells #[.int .i64 1, .int .u64 0, .int .u64 0, .int .u64 0, .int .u64 0, .slice none 0 0] 27) := by rw [← HWZ.out]; exact put6_at hbn _ _ _ _ _ _
          obtain ⟨⟨z0, z1, z2, z3, z4, z5⟩, zf0, zf1, zf2, zf3, zf4, zf5⟩ := block6 hbn
          obtain ⟨⟨v0, v1, v2, v3, v4, v5⟩, vf0, vf1, vf2, vf3, vf4, vf5⟩ := block6 hbz
          clear hbn hbz vf0 vf1 vf2 vf3 vf4 vf5
          go_wp2_with fail
          rw [HWZ.out]
          refine bodyPost_ret (v := .tuple #[.agg #[.int .i64 1, .int .u64 0, .int .u64 0, .int .u64 0, .int .u64 0, .slice none 0 0], .pointer none]) (by simp [results, Try.results68, go_sem, v0, v1, v2, v3, v4, v5]) rfl ⟨(1, Cls.empty, none, 0, 0), none, rfl, HDN.out.1, ?_⟩
          rw [HF.out]
          exact HDN.out.2
        · have e93b : (p1 == 93) = false := by simpa using e93
          have hcall := HK.out g (i + 1) wb HPwb.out (by omega) (fun e => e93 (h93.2 e))
          obtain ⟨r, HR⟩ : ∃ r, Hid (setR s (i + 1) = r) := ⟨_, (rfl : setR s (i + 1) = setR s (i + 1))⟩
          rw [HR.out] at hcall HRA
          clear h93 e93 HP1 HK
          go_wp2_with fail
          refine hcall.mono ?_
          rintro _ wc ⟨c, b, rfl, hfc, hkb⟩
          obtain ⟨m, HM⟩ : ∃ m, Hid (wc.heap.size = m) := ⟨_, (rfl : wc.heap.size = wc.heap.size)⟩
          obtain ⟨wd, HWD⟩ : ∃ wd, Hid (wc.alloc (.cells #[.int .u64 ((c).1.toNat : Int), .int .u64 ((c).2.1.toNat : Int), .int .u64 ((c).2.2.1.toNat : Int), .int .u64 ((c).2.2.2.toNat : Int)] 24) = wd) := ⟨_, (rfl : _ = _)⟩
          have hB : Below wc.heap.size wc wd := HWD.out ▸ bal_ _ _
          have hbm : wd.heap[m]? = some (.cells #[.int .u64 ((c).1.toNat : Int), .int .u64 ((c).2.1.toNat : Int), .int .u64 ((c).2.2.1.toNat : Int), .int .u64 ((c).2.2.2.toNat : Int)] 24) := by rw [← HM.out, ← HWD.out]; exact block_new wc _
          have hfd : Fm (fun b => b = g) wb wd := hfc.trans (Fm.of (X := fun b => b = g) hB) fun _ _ e => e
          have HGwd : Hid (Fm (fun b => b = g) w wd) := HGwb.out.trans hfd fun _ _ e => e
          have HNwd : Hid (wd.heap[n]? = some (.cells #[.int .i64 0, .int .u64 0, .int .u64 0, .int .u64 0, .int .u64 0, .slice none 0 0] 27)) := (hfd.block n (in_heap HNwb.out) (by omega)).trans HNwb.out
          have hsw := HGwb.out.size
          have HQ0 : Hid (QB s g (.int .i64 (kn : Int)) w.heap.size (fun z => w.heap.size ≤ z ∧ z ≠ n ∧ z < wd.heap.size) (.mk r.1 r.2.1 [], r.2.2.1, r.2.2.2) (3, c, none, 0, 0) b wd) := by
            rcases hkb with ⟨he, hb, h3, hc, hp⟩ | ⟨he, st, hb, hst, hsl, hpq⟩
            · refine Or.inl ⟨he, hb, ⟨_, Al.refl _, ?_⟩, hp.next hB⟩
              rw [h3, ← hc]; exact Ry.leaf 3 c (by omega)
            · exact Or.inr ⟨he, st, hb, hst.keep (Fm.of (X := fun _ => False) hB) id, by omega, hpq.keep (Fm.of (X := fun _ => False) hB) id⟩
          have HF : Hid (rr = (.mk r.1 r.2.1 [], r.2.2.1, r.2.2.2)) := HRA.out
          have y0 : wd.cell? ⟨m, 0, none⟩ = some (.int .u64 ((c).1.toNat : Int)) := by simp [World.cell?, hbm]
          have y1 : wd.cell? ⟨m, 1, none⟩ = some (.int .u64 ((c).2.1.toNat : Int)) := by simp [World.cell?, hbm]
          have y2 : wd.cell? ⟨m, 2, none⟩ = some (.int .u64 ((c).2.2.1.toNat : Int)) := by simp [World.cell?, hbm]
          have y3 : wd.cell? ⟨m, 3, none⟩ = some (.int .u64 ((c).2.2.2.toNat : Int)) := by simp [World.cell?, hbm]
          go_upto_region 25 with fail
          rw [HM.out, HWD.out]
          clear hB hbm hfd hfc hkb hsw HM HWD HRA hcall e93b HPwb HGwb HNwb
          have HQB : Hid (QB s g (.int .i64 (kn : Int)) w.heap.size (fun z => w.heap.size ≤ z ∧ z ≠ n ∧ z < wd.heap.size) (.mk r.1 r.2.1 [], r.2.2.1, r.2.2.2) (3, c, none, 0, 0) b wd) := HQ0.out
          obtain ⟨wz, HWZ⟩ : ∃ wz, Hid (((((((wd.setCell ⟨n, 0, none⟩ (.int .i64 3)).setCell ⟨n, 1, none⟩ (.int .u64 ((c).1.toNat : Int))).setCell ⟨n, 2, none⟩ (.int .u64 ((c).2.1.toNat : Int))).setCell ⟨n, 3, none⟩ (.int .u64 ((c).2.2.1.toNat : Int))).setCell ⟨n, 4, none⟩ (.int .u64 ((c).2.2.2.toNat : Int))).setCell ⟨n, 5, none⟩ (.slice none 0 0)) = wz) := ⟨_, (rfl : _ = _)⟩
          have HDN : Hid (Fm (fun b => b = g) w wz ∧ QB s g (.int .i64 (kn : Int)) w.heap.size (fun z => w.heap.size ≤ z ∧ z < wz.heap.size) (.mk r.1 r.2.1 [], r.2.2.1, r.2.2.2) (3, c, none, 0, 0) b wz) := doneQ hlt hnw HGwd.out HNwd.out HQB.out HWZ.out
          have hbn := HNwd.out
          have hbz : wz.heap[n]? = some (.cells #[.int .i64 3, .int .u64 ((c).1.toNat : Int), .int .u64 ((c).2.1.toNat : Int), .int .u64 ((c).2.2.1.toNat : Int), .int .u64 ((c).2.2.2.toNat : Int), .slice none 0 0] 27) := by rw [← HWZ.out]; exact put6_at hbn _ _ _ _ _ _
          obtain ⟨⟨z0, z1, z2, z3, z4, z5⟩, zf0, zf1, zf2, zf3, zf4, zf5⟩ := block6 hbn
          obtain ⟨⟨v0, v1, v2, v3, v4, v5⟩, vf0, vf1, vf2, vf3, vf4, vf5⟩ := block6 hbz
          clear hbn hbz vf0 vf1 vf2 vf3 vf4 vf5
          go_wp2_with fail
          rw [HWZ.out]
          refine bodyPost_ret (v := .tuple #[.agg #[.int .i64 3, .int .u64 ((c).1.toNat : Int), .int .u64 ((c).2.1.toNat : Int), .int .u64 ((c).2.2.1.toNat : Int), .int .u64 ((c).2.2.2.toNat : Int), .slice none 0 0], .pointer b]) (by simp [results, Try.results68, go_sem, v0, v1, v2, v3, v4, v5]) rfl ⟨(3, c, none, 0, 0), b, rfl, HDN.out.1, ?_⟩
          rw [HF.out]
          exact HDN.out.2
      · have e91b : (p0 == 91) = false := by simpa using e91
        have HRA : Hid (rr = (.mk 3 (range (charR s i).1 (charR s i).1) [], (charR s i).2.1, (charR s i).2.2)) := by show _ = _; rw [← HRR.out]; unfold atomR; rw [if_neg hn40, if_neg (fun e => e91 (h91.2 e)), if_neg hn46]
        clear h40 h91 h46 hp0 HP0 HRR hn40 hn46 e40 e46 e91 HA HK HGO
        have hcall := rchar_any s hs g i (.int .i64 (kn : Int)) w1 HPw1.out
        obtain ⟨r, HR⟩ : ∃ r, Hid (charR s i = r) := ⟨_, (rfl : charR s i = charR s i)⟩
        rw [HR.out] at hcall HRA
        go_wp2_with fail
        refine hcall.mono ?_
        intro e9 wc hqn
        obtain ⟨v, b, rfl, hfc, hkb⟩ : ∃ (v : Nat) (b : Option Addr), e9 = .returned (.tuple #[.int .i64 (v : Int), .pointer b]) ∧ Fm (fun b => b = g) w1 wc ∧ ((r.2.2 = 0 ∧ b = none ∧ v = r.1 ∧ Pt g s r.2.1 (.int .i64 (kn : Int)) wc) ∨ (r.2.2 ≠ 0 ∧ ∃ st, b = some ⟨st, 0, none⟩ ∧ St st r.2.2 r.2.1 wc ∧ w1.heap.size ≤ st ∧ Pq g s (.int .i64 (kn : Int)) wc)) := by
          obtain ⟨h1, h2⟩ := hqn
          rcases h2 with ⟨he, h3, h4⟩ | ⟨he, st, h3, h4, h5, h6⟩
          · exact ⟨r.1, none, h3, h1, Or.inl ⟨he, rfl, rfl, h4⟩⟩
          · exact ⟨0, some ⟨st, 0, none⟩, h3, h1, Or.inr ⟨he, st, rfl, h4, h5, h6⟩⟩
        obtain ⟨m, HM⟩ : ∃ m, Hid (wc.heap.size = m) := ⟨_, (rfl : wc.heap.size = wc.heap.size)⟩
        obtain ⟨wd, HWD⟩ : ∃ wd, Hid (wc.alloc (.cells #[.int .i64 (v : Int)] 3) = wd) := ⟨_, (rfl : _ = _)⟩
        have hB : Below wc.heap.size wc wd := HWD.out ▸ bal_ _ _
        have HBM : Hid (wd.heap[m]? = some (.cells #[.int .i64 (v : Int)] 3)) := by
          show _ = _
          rw [← HM.out, ← HWD.out]; exact block_new wc _
        have hwh := where_any 79 #[.pointer (some ⟨m, 0, none⟩)] (fun x => decide (x = v)) wd (enters_of Try.func79 (by kernel_rfl) rfl) fun W1 x hx hb => clos79 x v m W1 ((hb.block m (in_heap HBM.out)).trans HBM.out)
        rw [wher_one] at hwh
        obtain ⟨D, HDT⟩ : ∃ D, Hid (range v v = D) := ⟨_, (rfl : range v v = range v v)⟩
        rw [HDT.out] at hwh
        have HWH : Hid (Calls Try.prog 22 #[.func (.func 79) #[] #[.pointer (some ⟨m, 0, none⟩)]] wd fun e w' => e = .returned (.agg #[.int .u64 ((D).1.toNat : Int), .int .u64 ((D).2.1.toNat : Int), .int .u64 ((D).2.2.1.toNat : Int), .int .u64 ((D).2.2.2.toNat : Int)]) ∧ Below wd.heap.size wd w') := hwh
        have hmf : ∀ (fn : Fn) (first cap : Array Value) (w : World), (Instr.makeFunc fn first cap).run Try.prog w = .ok (.func fn first cap) w := fun _ _ _ _ => rfl
        clear hwh hcall hqn
        go_upto_region 27 with fail
        rw [HM.out, HWD.out]
        go_wp2_with fail
        refine HWH.out.mono ?_
        rintro _ wf ⟨rfl, hbf⟩
        have hBf : Below wc.heap.size wc wf := hB.trans (hbf.mono hB.size)
        have hfd : Fm (fun b => b = g) w1 wf := hfc.trans (Fm.of (X := fun b => b = g) hBf) fun _ _ e => e
        have HGwf : Hid (Fm (fun b => b = g) w wf) := HGw1.out.trans hfd fun _ _ e => e
        have HNwf : Hid (wf.heap[n]? = some (.cells #[.int .i64 0, .int .u64 0, .int .u64 0, .int .u64 0, .int .u64 0, .slice none 0 0] 27)) := (hfd.block n (in_heap HNw1.out) (by omega)).trans HNw1.out
        have hsw := HGw1.out.size
        have HQ0 : Hid (QB s g (.int .i64 (kn : Int)) w.heap.size (fun z => w.heap.size ≤ z ∧ z ≠ n ∧ z < wf.heap.size) (.mk 3 (range r.1 r.1) [], r.2.1, r.2.2) (3, D, none, 0, 0) b wf) := by
          rcases hkb with ⟨he, hb, hv, hp⟩ | ⟨he, st, hb, hst, hsl, hpq⟩
          · refine Or.inl ⟨he, hb, ⟨_, Al.refl _, ?_⟩, hp.next hBf⟩
            rw [← hv, HDT.out]; exact Ry.leaf 3 D (by omega)
          · exact Or.inr ⟨he, st, hb, hst.keep (Fm.of (X := fun _ => False) hBf) id, by omega, hpq.keep (Fm.of (X := fun _ => False) hBf) id⟩
        have HF : Hid (rr = (.mk 3 (range r.1 r.1) [], r.2.1, r.2.2)) := HRA.out
        clear hB hBf hbf hfd hfc hkb hsw HM HWD HRA HBM HWH HDT HR HPw1 HGw1 HNw1 hmf
        have HQB : Hid (QB s g (.int .i64 (kn : Int)) w.heap.size (fun z => w.heap.size ≤ z ∧ z ≠ n ∧ z < wf.heap.size) (.mk 3 (range r.1 r.1) [], r.2.1, r.2.2) (3, D, none, 0, 0) b wf) := HQ0.out
        obtain ⟨wz, HWZ⟩ : ∃ wz, Hid (((((((wf.setCell ⟨n, 0, none⟩ (.int .i64 3)).setCell ⟨n, 1, none⟩ (.int .u64 ((D).1.toNat : Int))).setCell ⟨n, 2, none⟩ (.int .u64 ((D).2.1.toNat : Int))).setCell ⟨n, 3, none⟩ (.int .u64 ((D).2.2.1.toNat : Int))).setCell ⟨n, 4, none⟩ (.int .u64 ((D).2.2.2.toNat : Int))).setCell ⟨n, 5, none⟩ (.slice none 0 0)) = wz) := ⟨_, (rfl : _ = _)⟩
        have HDN : Hid (Fm (fun b => b = g) w wz ∧ QB s g (.int .i64 (kn : Int)) w.heap.size (fun z => w.heap.size ≤ z ∧ z < wz.heap.size) (.mk 3 (range r.1 r.1) [], r.2.1, r.2.2) (3, D, none, 0, 0) b wz) := doneQ hlt hnw HGwf.out HNwf.out HQB.out HWZ.out
        have hbn := HNwf.out
        have hbz : wz.heap[n]? = some (.cells #[.int .i64 3, .int .u64 ((D).1.toNat : Int), .int .u64 ((D).2.1.toNat : Int), .int .u64 ((D).2.2.1.toNat : Int), .int .u64 ((D).2.2.2.toNat : Int), .slice none 0 0] 27) := by rw [← HWZ.out]; exact put6_at hbn _ _ _ _ _ _
        obtain ⟨⟨z0, z1, z2, z3, z4, z5⟩, zf0, zf1, zf2, zf3, zf4, zf5⟩ := block6 hbn
        obtain ⟨⟨v0, v1, v2, v3, v4, v5⟩, vf0, vf1, vf2, vf3, vf4, vf5⟩ := block6 hbz
        clear hbn hbz vf0 vf1 vf2 vf3 vf4 vf5
        go_wp2_with fail
        rw [HWZ.out]
        refine bodyPost_ret (v := .tuple #[.agg #[.int .i64 3, .int .u64 ((D).1.toNat : Int), .int .u64 ((D).2.1.toNat : Int), .int .u64 ((D).2.2.1.toNat : Int), .int .u64 ((D).2.2.2.toNat : Int), .slice none 0 0], .pointer b]) (by simp [results, Try.results68, go_sem, v0, v1, v2, v3, v4, v5]) rfl ⟨(3, D, none, 0, 0), b, rfl, HDN.out.1, ?_⟩
        rw [HF.out]
        exact HDN.out.2
end Go.Proofs.Ythloedfiomfnbaa

namespace Go.Proofs.Ythloedfiomfnbaa
open Go.RowKit
open Cls Rex Txt

/-- Where the parser is at last. -/
def isPos (s : ByteArray) (n : Int) : Prop := n = ((altN s 30 0).2.1 : Int)
set_option maxHeartbeats 6400000 in
set_option maxRecDepth 20000 in
theorem Parse_badP (s : ByteArray) (hs : s.size ≤ 300) (he : pe s ≠ 0) (w : World) :
    Calls Try.prog 11 #[.string s] w fun e w' => ∃ n : Int, isPos s n ∧ e = .returned (.tuple #[.agg #[.int .i64 0, .int .u64 0, .int .u64 0, .int .u64 0, .int .u64 0, .slice none 0 0], .int .i64 n, .int .i64 (pe s : Int)]) ∧ Below w.heap.size w w' := by
  obtain ⟨r, HR⟩ : ∃ r, Hid (pe s = r) := ⟨_, (rfl : pe s = pe s)⟩
  rw [HR.out] at he ⊢
  have b1 : decide ((300 : Int) < (s.size : Int)) = false := by simp; omega
  have e1 : (w.alloc (Obj.cells #[.int .i64 0, .int .u64 0, .int .u64 0, .int .u64 0, .int .u64 0, .slice none 0 0] 27)).heap.size = w.heap.size + 1 := by simp
  have r0 := (row_zero6 w).alloc (Obj.cells #[.string s, .int .i64 0, .int .i64 0] 51)
  have hps : Ps (w.heap.size + 1) s 0 (.int .i64 0) ((w.alloc (Obj.cells #[.int .i64 0, .int .u64 0, .int .u64 0, .int .u64 0, .int .u64 0, .slice none 0 0] 27)).alloc (Obj.cells #[.string s, .int .i64 0, .int .i64 0] 51)) := by
    have := heap_alloc_new (w.alloc (Obj.cells #[.int .i64 0, .int .u64 0, .int .u64 0, .int .u64 0, .int .u64 0, .slice none 0 0] 27)) (Obj.cells #[.string s, .int .i64 0, .int .i64 0] 51)
    rw [e1] at this; exact this
  have hpc := alt_done s (by omega) (w.heap.size + 1) 0 _ hps (Nat.zero_le _)
  have HR0 : Hid (((w.alloc (Obj.cells #[.int .i64 0, .int .u64 0, .int .u64 0, .int .u64 0, .int .u64 0, .slice none 0 0] 27)).alloc (Obj.cells #[.string s, .int .i64 0, .int .i64 0] 51)).rowIs w.heap.size 27 6 (fun i => match i with | 0 => .int .i64 0 | 5 => .slice none 0 0 | _ => .int .u64 0)) := r0
  have HB0 : Hid (Below w.heap.size w ((w.alloc (Obj.cells #[.int .i64 0, .int .u64 0, .int .u64 0, .int .u64 0, .int .u64 0, .slice none 0 0] 27)).alloc (Obj.cells #[.string s, .int .i64 0, .int .i64 0] 51)) ∧ ((w.alloc (Obj.cells #[.int .i64 0, .int .u64 0, .int .u64 0, .int .u64 0, .int .u64 0, .slice none 0 0] 27)).alloc (Obj.cells #[.string s, .int .i64 0, .int .i64 0] 51)).heap.size = w.heap.size + 2) := ⟨bal2 _ _ _, by simp⟩
  obtain ⟨x, HX⟩ : ∃ x, Hid (altN s 30 0 = x) := ⟨_, (rfl : altN s 30 0 = altN s 30 0)⟩
  rw [HX.out] at hpc
  clear r0 hps e1
  go_enter Try.func11, Try.ntmps11
  go_wp2_with fail
  refine hpc.mono ?_
  rintro _ w3 ⟨q, rfl, hry, hps, hgr⟩
  have HB3 : Hid (Below w.heap.size w w3) := HB0.out.1.trans ⟨hgr.os, hgr.tape, hgr.output, hgr.size, fun k hk => hgr.block k (by have := HB0.out.2; omega) (by simp; omega)⟩
  have r3 := HR0.out.of_block (hgr.block w.heap.size (by have := HB0.out.2; omega) (by simp))
  have hba := bal w3 (Obj.cells #[.int .i64 q.1, .int .u64 (q.2.1.1.toNat : Int), .int .u64 (q.2.1.2.1.toNat : Int), .int .u64 (q.2.1.2.2.1.toNat : Int), .int .u64 (q.2.1.2.2.2.toNat : Int), .slice q.2.2.1 q.2.2.2.1 q.2.2.2.2] 27)
  have rq := row_of6 w3 (.int .i64 q.1) (.int .u64 (q.2.1.1.toNat : Int)) (.int .u64 (q.2.1.2.1.toNat : Int)) (.int .u64 (q.2.1.2.2.1.toNat : Int)) (.int .u64 (q.2.1.2.2.2.toNat : Int)) (.slice q.2.2.1 q.2.2.2.1 q.2.2.2.2)
  obtain ⟨w4, HW4⟩ : ∃ w4, Hid (w3.alloc (Obj.cells #[.int .i64 q.1, .int .u64 (q.2.1.1.toNat : Int), .int .u64 (q.2.1.2.1.toNat : Int), .int .u64 (q.2.1.2.2.1.toNat : Int), .int .u64 (q.2.1.2.2.2.toNat : Int), .slice q.2.2.1 q.2.2.2.1 q.2.2.2.2] 27) = w4) := ⟨_, (rfl : _ = _)⟩
  rw [HW4.out] at hba rq
  have HR4 : Hid (w4.rowIs w.heap.size 27 6 (fun i => match i with | 0 => .int .i64 0 | 5 => .slice none 0 0 | _ => .int .u64 0)) := r3.of_block (hba.block _ r3.lt)
  have HB4 : Hid (Below w.heap.size w w4 ∧ w.heap.size + 2 ≤ w4.heap.size) := ⟨HB3.out.trans (hba.mono HB3.out.size), by have := HB0.out.2; have := hgr.size; have := hba.size; omega⟩
  have HRQ : Hid (w4.rowIs w3.heap.size 27 6 _) := rq
  have HRY : Hid (Rx w4 w4.heap.size (v6 q) x.1) := (hry.move (A' := fun b => b < w4.heap.size) (fun b hb => Nat.lt_of_lt_of_le hb.2 hba.size) (fun b hb => hba.block b hb.2)).rx fun b hb => hb
  have HPS : Hid (Ps (w.heap.size + 1) s x.2.1 (.int .i64 0) w4) := hps.next hba
  have p1 := HPS.out.cells.1.2.1
  rw [← HW4.out] at p1
  clear hpc hry hps hgr r3 hba rq HB3 HR0 HB0
  have HPE : Hid (r = if x.2.2 = 0 then (if x.2.1 < s.size then 6 else err x.1) else x.2.2) := by show _ = _; rw [← HR.out]; unfold pe; rw [HX.out]
  have HX3 : Hid (isPos s (x.2.1 : Int)) := by
    show isPos _ _
    unfold isPos; rw [HX.out]
  clear HR HX
  have HRW : Hid (w4.rowIs w.heap.size 27 6 (fun i => match i with | 0 => .int .i64 0 | 5 => .slice none 0 0 | _ => .int .u64 0)) := HR4.out
  have HPW : Hid (Ps (w.heap.size + 1) s x.2.1 (.int .i64 0) w4) := HPS.out
  have HBW : Hid (Below w.heap.size w w4) := HB4.out.1
  by_cases h1 : x.2.2 = 0
  · have HPE2 : Hid (r = if x.2.1 < s.size then 6 else err x.1) := by show _ = _; rw [HPE.out, if_pos h1]
    rw [h1]
    by_cases h2 : x.2.1 < s.size
    · obtain rfl : r = 6 := by rw [HPE2.out, if_pos h2]
      have b3 : decide ((x.2.1 : Int) < (s.size : Int)) = true := by simp; omega
      go_upto_region 10 with (fail)
      rw [HW4.out]
      have p9 := HPW.out.cells.1.2.1
      have a0 := HRW.out.cell (i := 0) (by omega)
      have a1 := HRW.out.cell (i := 1) (by omega)
      have a2 := HRW.out.cell (i := 2) (by omega)
      have a3 := HRW.out.cell (i := 3) (by omega)
      have a4 := HRW.out.cell (i := 4) (by omega)
      have a5 := HRW.out.cell (i := 5) (by omega)
      have f0 := HRW.out.frozen 0
      have f1 := HRW.out.frozen 1
      have f2 := HRW.out.frozen 2
      have f3 := HRW.out.frozen 3
      have f4 := HRW.out.frozen 4
      have f5 := HRW.out.frozen 5
      simp only [] at a0 a1 a2 a3 a4 a5
      obtain ⟨wz, HWZ⟩ : ∃ wz, Hid (((((((w4.setCell ⟨w.heap.size, 0, none⟩ (.int .i64 0)).setCell ⟨w.heap.size, 1, none⟩ (.int .u64 0)).setCell ⟨w.heap.size, 2, none⟩ (.int .u64 0)).setCell ⟨w.heap.size, 3, none⟩ (.int .u64 0)).setCell ⟨w.heap.size, 4, none⟩ (.int .u64 0)).setCell ⟨w.heap.size, 5, none⟩ (.slice none 0 0)) = wz) := ⟨_, (rfl : _ = _)⟩
      have HSET := row_six HRW.out (.int .i64 0) (.int .u64 0) (.int .u64 0) (.int .u64 0) (.int .u64 0) (.slice none 0 0)
      have HBL : Hid (Below w.heap.size w wz) := by
        show Below _ _ _
        rw [← HWZ.out]
        exact (((((HBW.out.setCell (Nat.le_refl _) _).setCell (Nat.le_refl _) _).setCell (Nat.le_refl _) _).setCell (Nat.le_refl _) _).setCell (Nat.le_refl _) _).setCell (Nat.le_refl _) _
      rw [HWZ.out] at HSET
      have v0 := HSET.cell (i := 0) (by omega)
      have v1 := HSET.cell (i := 1) (by omega)
      have v2 := HSET.cell (i := 2) (by omega)
      have v3 := HSET.cell (i := 3) (by omega)
      have v4 := HSET.cell (i := 4) (by omega)
      have v5 := HSET.cell (i := 5) (by omega)
      simp only [] at v0 v1 v2 v3 v4 v5
      rw [← HWZ.out] at v0 v1 v2 v3 v4 v5 HBL
      clear HSET HWZ
      go_region
      go_wp2_with fail
      refine bodyPost_ret (v := .tuple #[.agg #[.int .i64 0, .int .u64 0, .int .u64 0, .int .u64 0, .int .u64 0, .slice none 0 0], .int .i64 (x.2.1 : Int), .int .i64 6]) (by simp [results, Try.results11, go_sem, v0, v1, v2, v3, v4, v5]) rfl ⟨(x.2.1 : Int), HX3.out, rfl, ?_⟩
      exact HBL.out.drew
    · have b3 : decide ((x.2.1 : Int) < (s.size : Int)) = false := by simp; omega
      have her : err x.1 = r := by rw [HPE2.out, if_neg h2]
      have y0 := HRQ.out.cell (i := 0) (by omega)
      have y1 := HRQ.out.cell (i := 1) (by omega)
      have y2 := HRQ.out.cell (i := 2) (by omega)
      have y3 := HRQ.out.cell (i := 3) (by omega)
      have y4 := HRQ.out.cell (i := 4) (by omega)
      have y5 := HRQ.out.cell (i := 5) (by omega)
      simp only [] at y0 y1 y2 y3 y4 y5
      rw [← HW4.out] at y0 y1 y2 y3 y4 y5
      have HC : Hid (Calls Try.prog 10 #[.agg #[.int .i64 q.1, .int .u64 (q.2.1.1.toNat : Int), .int .u64 (q.2.1.2.1.toNat : Int), .int .u64 (q.2.1.2.2.1.toNat : Int), .int .u64 (q.2.1.2.2.2.toNat : Int), .slice q.2.2.1 q.2.2.2.1 q.2.2.2.2]] w4 fun e w' => e = .returned (.int .i64 (r : Int)) ∧ Below w4.heap.size w4 w') := by
        have := Check_any x.1 (v6 q) w4.heap.size w4 HRY.out (Nat.le_refl _)
        rw [her] at this; exact this
      have b4 : ((r : Int) != 0) = true := bne_iff_ne.2 (by omega)
      clear her
      clear HPE HPE2
      go_wp2_with fail
      rw [HW4.out]
      clear y0 y1 y2 y3 y4 y5 p1 HW4
      refine HC.out.mono ?_
      rintro _ w5 ⟨rfl, hb5⟩
      replace HRW : Hid (w5.rowIs w.heap.size 27 6 (fun i => match i with | 0 => .int .i64 0 | 5 => .slice none 0 0 | _ => .int .u64 0)) := HRW.out.of_block (hb5.block _ HRW.out.lt)
      replace HPW : Hid (Ps (w.heap.size + 1) s x.2.1 (.int .i64 0) w5) := HPW.out.next hb5
      replace HBW : Hid (Below w.heap.size w w5) := HBW.out.trans (hb5.mono HBW.out.size)
      clear hb5 HC
      go_upto_region 10 with (fail)
      have p9 := HPW.out.cells.1.2.1
      have a0 := HRW.out.cell (i := 0) (by omega)
      have a1 := HRW.out.cell (i := 1) (by omega)
      have a2 := HRW.out.cell (i := 2) (by omega)
      have a3 := HRW.out.cell (i := 3) (by omega)
      have a4 := HRW.out.cell (i := 4) (by omega)
      have a5 := HRW.out.cell (i := 5) (by omega)
      have f0 := HRW.out.frozen 0
      have f1 := HRW.out.frozen 1
      have f2 := HRW.out.frozen 2
      have f3 := HRW.out.frozen 3
      have f4 := HRW.out.frozen 4
      have f5 := HRW.out.frozen 5
      simp only [] at a0 a1 a2 a3 a4 a5
      obtain ⟨wz, HWZ⟩ : ∃ wz, Hid (((((((w5.setCell ⟨w.heap.size, 0, none⟩ (.int .i64 0)).setCell ⟨w.heap.size, 1, none⟩ (.int .u64 0)).setCell ⟨w.heap.size, 2, none⟩ (.int .u64 0)).setCell ⟨w.heap.size, 3, none⟩ (.int .u64 0)).setCell ⟨w.heap.size, 4, none⟩ (.int .u64 0)).setCell ⟨w.heap.size, 5, none⟩ (.slice none 0 0)) = wz) := ⟨_, (rfl : _ = _)⟩
      have HSET := row_six HRW.out (.int .i64 0) (.int .u64 0) (.int .u64 0) (.int .u64 0) (.int .u64 0) (.slice none 0 0)
      have HBL : Hid (Below w.heap.size w wz) := by
        show Below _ _ _
        rw [← HWZ.out]
        exact (((((HBW.out.setCell (Nat.le_refl _) _).setCell (Nat.le_refl _) _).setCell (Nat.le_refl _) _).setCell (Nat.le_refl _) _).setCell (Nat.le_refl _) _).setCell (Nat.le_refl _) _
      rw [HWZ.out] at HSET
      have v0 := HSET.cell (i := 0) (by omega)
      have v1 := HSET.cell (i := 1) (by omega)
      have v2 := HSET.cell (i := 2) (by omega)
      have v3 := HSET.cell (i := 3) (by omega)
      have v4 := HSET.cell (i := 4) (by omega)
      have v5 := HSET.cell (i := 5) (by omega)
      simp only [] at v0 v1 v2 v3 v4 v5
      rw [← HWZ.out] at v0 v1 v2 v3 v4 v5 HBL
      clear HSET HWZ
      go_region
      go_wp2_with fail
      refine bodyPost_ret (v := .tuple #[.agg #[.int .i64 0, .int .u64 0, .int .u64 0, .int .u64 0, .int .u64 0, .slice none 0 0], .int .i64 (x.2.1 : Int), .int .i64 (r : Int)]) (by simp [results, Try.results11, go_sem, v0, v1, v2, v3, v4, v5]) rfl ⟨(x.2.1 : Int), HX3.out, rfl, ?_⟩
      exact HBL.out.drew
  · have her : x.2.2 = r := by rw [HPE.out, if_neg h1]
    rw [her]
    have b4 : ((r : Int) != 0) = true := bne_iff_ne.2 (by omega)
    have b5 : ((r : Int) == 0) = false := beq_eq_false_iff_ne.2 (by omega)
    clear her
    clear HPE h1
    go_upto_region 10 with (fail)
    rw [HW4.out]
    have p9 := HPW.out.cells.1.2.1
    have a0 := HRW.out.cell (i := 0) (by omega)
    have a1 := HRW.out.cell (i := 1) (by omega)
    have a2 := HRW.out.cell (i := 2) (by omega)
    have a3 := HRW.out.cell (i := 3) (by omega)
    have a4 := HRW.out.cell (i := 4) (by omega)
    have a5 := HRW.out.cell (i := 5) (by omega)
    have f0 := HRW.out.frozen 0
    have f1 := HRW.out.frozen 1
    have f2 := HRW.out.frozen 2
    have f3 := HRW.out.frozen 3
    have f4 := HRW.out.frozen 4
    have f5 := HRW.out.frozen 5
    simp only [] at a0 a1 a2 a3 a4 a5
    obtain ⟨wz, HWZ⟩ : ∃ wz, Hid (((((((w4.setCell ⟨w.heap.size, 0, none⟩ (.int .i64 0)).setCell ⟨w.heap.size, 1, none⟩ (.int .u64 0)).setCell ⟨w.heap.size, 2, none⟩ (.int .u64 0)).setCell ⟨w.heap.size, 3, none⟩ (.int .u64 0)).setCell ⟨w.heap.size, 4, none⟩ (.int .u64 0)).setCell ⟨w.heap.size, 5, none⟩ (.slice none 0 0)) = wz) := ⟨_, (rfl : _ = _)⟩
    have HSET := row_six HRW.out (.int .i64 0) (.int .u64 0) (.int .u64 0) (.int .u64 0) (.int .u64 0) (.slice none 0 0)
    have HBL : Hid (Below w.heap.size w wz) := by
      show Below _ _ _
      rw [← HWZ.out]
      exact (((((HBW.out.setCell (Nat.le_refl _) _).setCell (Nat.le_refl _) _).setCell (Nat.le_refl _) _).setCell (Nat.le_refl _) _).setCell (Nat.le_refl _) _).setCell (Nat.le_refl _) _
    rw [HWZ.out] at HSET
    have v0 := HSET.cell (i := 0) (by omega)
    have v1 := HSET.cell (i := 1) (by omega)
    have v2 := HSET.cell (i := 2) (by omega)
    have v3 := HSET.cell (i := 3) (by omega)
    have v4 := HSET.cell (i := 4) (by omega)
    have v5 := HSET.cell (i := 5) (by omega)
    simp only [] at v0 v1 v2 v3 v4 v5
    rw [← HWZ.out] at v0 v1 v2 v3 v4 v5 HBL
    clear HSET HWZ
    go_region
    go_wp2_with fail
    refine bodyPost_ret (v := .tuple #[.agg #[.int .i64 0, .int .u64 0, .int .u64 0, .int .u64 0, .int .u64 0, .slice none 0 0], .int .i64 (x.2.1 : Int), .int .i64 (r : Int)]) (by simp [results, Try.results11, go_sem, v0, v1, v2, v3, v4, v5]) rfl ⟨(x.2.1 : Int), HX3.out, rfl, ?_⟩
    exact HBL.out.drew
end Go.Proofs.Ythloedfiomfnbaa

namespace Go.Proofs.Ythloedfiomfnbaa
open Go.RowKit
open Cls Rex Txt

/-- alt, for each number of open brackets, if class does what it is to do. -/
theorem ralt_all (s : ByteArray) (hs : s.size ≤ 300) (hK : ∀ kn : Nat, kn ≤ 30 → KC s (.int .i64 (kn : Int))) : ∀ d : Nat, d ≤ 30 → QC 28 s (.int .i64 ((30 : Int) - (d : Int))) (altN s d)
  | 0, _ => by
    have ha : Goes s (fun i => ((.mk 0 empty [], i, 7) : Res)) := fun i hi => ⟨Nat.le_refl _, hi, fun e => by simp at e⟩
    have h1 := ratom_any s hs 30 (by omega) _ ha (fun h => by omega) (hK 30 (by omega))
    have h2 := rrep_any s hs _ _ (atomR_goes ha) h1
    have h3 := rcat_any s hs _ _ (repR_goes (atomR_goes ha)) h2
    exact ralt_any s hs _ _ (catR_goes (repR_goes (atomR_goes ha))) h3
  | d + 1, hd => by
    have ih := ralt_all s hs hK d (by omega)
    have e1 : ((30 - (d + 1) : Nat) : Int) = (30 : Int) - ((d + 1 : Nat) : Int) := by omega
    have e2 : ((30 - (d + 1) : Nat) : Int) + 1 = (30 : Int) - (d : Int) := by omega
    have h1 := ratom_any s hs (30 - (d + 1)) (by omega) _ (altN_goes s d) (fun _ => by rw [e2]; exact ih) (hK _ (by omega))
    rw [e1] at h1
    have h2 := rrep_any s hs _ _ (atomR_goes (altN_goes s d)) h1
    have h3 := rcat_any s hs _ _ (repR_goes (atomR_goes (altN_goes s d))) h2
    exact ralt_any s hs _ _ (catR_goes (repR_goes (atomR_goes (altN_goes s d)))) h3
/-- What ReadRex answers. -/
def RR (s : ByteArray) (w : World) (e : Ending) (w' : World) : Prop :=
  Below w.heap.size w w' ∧ ((pe s = 0 ∧ ∃ q : R6, e = .returned (.tuple #[.agg #[.int .i64 q.1, .int .u64 (q.2.1.1.toNat : Int), .int .u64 (q.2.1.2.1.toNat : Int), .int .u64 (q.2.1.2.2.1.toNat : Int), .int .u64 (q.2.1.2.2.2.toNat : Int), .slice q.2.2.1 q.2.2.2.1 q.2.2.2.2], .int .i64 0, .int .i64 0]) ∧ Rx w' w'.heap.size (v6 q) (altN s 30 0).1) ∨ (pe s ≠ 0 ∧ ∃ n : Int, isPos s n ∧ e = .returned (.tuple #[.agg #[.int .i64 0, .int .u64 0, .int .u64 0, .int .u64 0, .int .u64 0, .slice none 0 0], .int .i64 n, .int .i64 (pe s : Int)])))
theorem al_err {t t' : T} (h : Al t t') : err t' = err t := by unfold err; rw [h.1]
theorem al_good {t t' : T} (h : Al t t') (he : err t = 0) : t' = t := by
  rcases h.2 with h | h
  · exact h
  · exact absurd he (h 1 0)
theorem St.cells {st e i : Nat} {W : World} (h : St st e i W) : W.cell? ⟨st, 0, none⟩ = some (.int .i64 (e : Int)) ∧ W.cell? ⟨st, 1, none⟩ = some (.int .i64 (i : Int)) := by
  unfold St at h; simp [World.cell?, h]
theorem put6_below {B : Nat} {w W : World} (h : Below B w W) (n : Nat) (hn : B ≤ n) (v0 v1 v2 v3 v4 v5 : Value) : Below B w (put6 W n v0 v1 v2 v3 v4 v5) :=
  (((((h.setCell hn _).setCell hn _).setCell hn _).setCell hn _).setCell hn _).setCell hn _
set_option maxHeartbeats 8000000 in
set_option maxRecDepth 20000 in
theorem ReadRex_any (s : ByteArray) (hs : s.size ≤ 300) (hQ : QC 28 s (.int .i64 0) (altN s 30)) (w : World) : Calls Try.prog 12 #[.string s] w fun e w' => RR s w e w' := by
  have b1 : decide ((300 : Int) < (s.size : Int)) = false := by simp; omega
  obtain ⟨n, HN⟩ : ∃ n, Hid (w.heap.size = n) := ⟨_, (rfl : w.heap.size = w.heap.size)⟩
  obtain ⟨W0, HW⟩ : ∃ W0, Hid (w.alloc (.cells #[.int .i64 0, .int .u64 0, .int .u64 0, .int .u64 0, .int .u64 0, .slice none 0 0] 27) = W0) := ⟨_, (rfl : _ = _)⟩
  obtain ⟨g, HGG⟩ : ∃ g, Hid (W0.heap.size = g) := ⟨_, (rfl : W0.heap.size = W0.heap.size)⟩
  obtain ⟨W1, HW1⟩ : ∃ W1, Hid (W0.alloc (.cells #[.string s, .int .i64 0, .int .i64 0] 56) = W1) := ⟨_, (rfl : _ = _)⟩
  have hnw : w.heap.size ≤ n := by rw [HN.out]; exact Nat.le_refl _
  have hB0 : Below w.heap.size w W0 := HW.out ▸ bal_ _ _
  have hB1 : Below W0.heap.size W0 W1 := HW1.out ▸ bal_ _ _
  have s0 : W0.heap.size = w.heap.size + 1 := by rw [← HW.out]; simp
  have hg : n < g := by rw [← HGG.out, ← HN.out, s0]; omega
  have hP : Pt g s 0 (.int .i64 0) W1 := by
    have := block_new W0 (.cells #[.string s, .int .i64 0, .int .i64 0] 56)
    rw [HW1.out, HGG.out] at this
    exact this
  have HN1 : Hid (W1.heap[n]? = some (.cells #[.int .i64 0, .int .u64 0, .int .u64 0, .int .u64 0, .int .u64 0, .slice none 0 0] 27)) := by
    show _ = _
    rw [hB1.block n (by rw [HGG.out]; omega), ← HN.out, ← HW.out]; exact block_new w _
  have HB1 : Hid (Below w.heap.size w W1) := hB0.trans (hB1.mono hB0.size)
  have hcall := hQ g 0 W1 hP (Nat.zero_le _)
  have hgo := altN_goes s 30 0 (Nat.zero_le _)
  obtain ⟨x, HX⟩ : ∃ x, Hid (altN s 30 0 = x) := ⟨_, (rfl : altN s 30 0 = altN s 30 0)⟩
  have HPE0 : Hid (pe s = if x.2.2 = 0 then (if x.2.1 < s.size then 6 else err x.1) else x.2.2) := by show _ = _; unfold pe; rw [HX.out]
  have HPO0 : Hid (∀ z : Int, z = (x.2.1 : Int) → isPos s z) := fun z hz => by unfold isPos; rw [HX.out]; exact hz
  have HTR : Hid ((altN s 30 0).1 = x.1) := by show _ = _; rw [HX.out]
  rw [HX.out] at hcall hgo
  have hgl := hP.lt
  clear hB0 hB1 hP hQ HX s0
  go_enter Try.func12, Try.ntmps12
  go_upto_region 3 with fail
  rw [HN.out, HW.out]
  go_upto_region 4 with fail
  rw [HGG.out, HW1.out]
  clear HGG HW1 HW
  go_upto_region 5 with (go_at_call 28; refine hcall.mono ?_; rintro _ w2 ⟨q, b, rfl, hf2, hq2⟩)
  obtain ⟨m, HM⟩ : ∃ m, Hid (w2.heap.size = m) := ⟨_, (rfl : w2.heap.size = w2.heap.size)⟩
  obtain ⟨w3, HW3⟩ : ∃ w3, Hid (w2.alloc (.cells #[.int .i64 q.1, .int .u64 (q.2.1.1.toNat : Int), .int .u64 (q.2.1.2.1.toNat : Int), .int .u64 (q.2.1.2.2.1.toNat : Int), .int .u64 (q.2.1.2.2.2.toNat : Int), .slice q.2.2.1 q.2.2.2.1 q.2.2.2.2] 27) = w3) := ⟨_, (rfl : _ = _)⟩
  rw [HM.out, HW3.out]
  have hB3 : Below w2.heap.size w2 w3 := HW3.out ▸ bal_ _ _
  have hbm : w3.heap[m]? = some (.cells #[.int .i64 q.1, .int .u64 (q.2.1.1.toNat : Int), .int .u64 (q.2.1.2.1.toNat : Int), .int .u64 (q.2.1.2.2.1.toNat : Int), .int .u64 (q.2.1.2.2.2.toNat : Int), .slice q.2.2.1 q.2.2.2.1 q.2.2.2.2] 27) := by rw [← HM.out, ← HW3.out]; exact block_new w2 _
  have hs2 := hf2.size
  have hn1 := in_heap HN1.out
  have HBw3 : Hid (Below w.heap.size w w3) := (HB1.out.trans (hf2.below HB1.out.size (by intro k hk; omega))).trans (hB3.mono (Nat.le_trans HB1.out.size hs2))
  have HNw3 : Hid (w3.heap[n]? = some (.cells #[.int .i64 0, .int .u64 0, .int .u64 0, .int .u64 0, .int .u64 0, .slice none 0 0] 27)) := by
    show _ = _
    rw [hB3.block n (by omega), hf2.block n hn1 (by omega)]; exact HN1.out
  have HQ3 : Hid (QB s g (.int .i64 0) w.heap.size (fun z => n < z ∧ z < w3.heap.size) x q b w3) := hq2.move (Nat.le_trans HB1.out.size (Nat.le_refl _)) (fun z hz => ⟨Nat.lt_of_lt_of_le hn1 hz.1, Nat.lt_of_lt_of_le hz.2 hB3.size⟩) (hB3.block g (by omega)) (fun z hz => hB3.block z hz.2) (fun z u v hs _ => hB3.block z hs.lt)
  clear hcall hq2 hf2 hB3 hs2 hn1 HN1 HB1 HM HW3 HN
  rcases HQ3.out with ⟨he, hbb, ⟨t', hal, hry⟩, hps⟩ | ⟨he, st, hbb, hst, -, -⟩
  · subst hbb
    have HAL : Hid (Al x.1 t') := hal
    have HRX : Hid (Rx w3 w3.heap.size (v6 q) t') := hry.rx fun b hb => hb.2
    have HRY3 : Hid (Ry w3 (fun z => n < z ∧ z < w3.heap.size) (v6 q) t') := hry
    have HPT : Hid (Pt g s x.2.1 (.int .i64 0) w3) := hps
    have HP1 : Hid (pe s = if x.2.1 < s.size then 6 else err x.1) := by show _ = _; rw [HPE0.out, if_pos he]
    have c1 := hps.cells.1.2.1
    clear hps hal hry he HQ3 HPE0
    by_cases hlt : x.2.1 < s.size
    · have b2 : decide ((x.2.1 : Int) < (s.size : Int)) = true := by simp; omega
      have HPE : Hid (pe s = 6) := by show _ = _; rw [HP1.out, if_pos hlt]
      have HNE : Hid (pe s ≠ 0) := by show _ ≠ _; rw [HPE.out]; simp
      have HPO : Hid (isPos s (x.2.1 : Int)) := HPO0.out _ rfl
      go_wp2_with fail
      refine (wrong_any g s x.2.1 (.int .i64 0) _ HPT.out).mono ?_
      rintro _ wx ⟨rfl, hwx⟩
      rw [hwx]
      clear c1 hwx
      obtain ⟨st, HST⟩ : ∃ st, Hid (w3.heap.size = st) := ⟨_, (rfl : w3.heap.size = w3.heap.size)⟩
      obtain ⟨w4, HW4⟩ : ∃ w4, Hid (w3.alloc (.cells #[.int .i64 6, .int .i64 (x.2.1 : Int)] 62) = w4) := ⟨_, (rfl : _ = _)⟩
      rw [HST.out, HW4.out]
      have hB4 : Below w3.heap.size w3 w4 := HW4.out ▸ bal_ _ _
      have HSP : Hid (St st 6 x.2.1 w4) := by
        show St _ _ _ _
        rw [← HST.out, ← HW4.out]; exact St.new w3 6 x.2.1
      have HBw4 : Hid (Below w.heap.size w w4) := HBw3.out.trans (hB4.mono HBw3.out.size)
      have HNw4 : Hid (w4.heap[n]? = some (.cells #[.int .i64 0, .int .u64 0, .int .u64 0, .int .u64 0, .int .u64 0, .slice none 0 0] 27)) := (hB4.block n (in_heap HNw3.out)).trans HNw3.out
      clear hB4 HST HW4 hbm
      have cs0 := HSP.out.cells.1
      have cs1 := HSP.out.cells.2
      have hbn := HNw4.out
      obtain ⟨⟨z0, z1, z2, z3, z4, z5⟩, zf0, zf1, zf2, zf3, zf4, zf5⟩ := block6 hbn
      obtain ⟨wz, HWZ⟩ : ∃ wz, Hid (((((((w4.setCell ⟨n, 0, none⟩ (.int .i64 0)).setCell ⟨n, 1, none⟩ (.int .u64 0)).setCell ⟨n, 2, none⟩ (.int .u64 0)).setCell ⟨n, 3, none⟩ (.int .u64 0)).setCell ⟨n, 4, none⟩ (.int .u64 0)).setCell ⟨n, 5, none⟩ (.slice none 0 0)) = wz) := ⟨_, (rfl : _ = _)⟩
      have hbz : wz.heap[n]? = some (.cells #[.int .i64 0, .int .u64 0, .int .u64 0, .int .u64 0, .int .u64 0, .slice none 0 0] 27) := by rw [← HWZ.out]; exact put6_at hbn _ _ _ _ _ _
      have HBL : Hid (Below w.heap.size w wz) := by
        show Below _ _ _
        rw [← HWZ.out]; exact put6_below HBw4.out n hnw _ _ _ _ _ _
      have hstz : St st 6 x.2.1 wz := by rw [← HWZ.out]; exact (put6_other w4 n _ _ _ _ _ _ st (st_ne HSP.out hbn)).trans HSP.out
      have ct0 := hstz.cells.1
      have ct1 := hstz.cells.2
      rw [← HWZ.out] at ct0 ct1
      obtain ⟨⟨v0, v1, v2, v3, v4, v5⟩, vf0, vf1, vf2, vf3, vf4, vf5⟩ := block6 hbz
      clear hbn hbz hstz vf0 vf1 vf2 vf3 vf4 vf5
      go_upto_region 8 with fail
      go_region
      rw [HWZ.out]
      clear z0 zf0 z1 zf1 z2 zf2 z3 zf3 z4 zf4 z5 zf5
      go_wp2_with fail
      refine bodyPost_ret (v := .tuple #[.agg #[.int .i64 0, .int .u64 0, .int .u64 0, .int .u64 0, .int .u64 0, .slice none 0 0], .int .i64 (x.2.1 : Int), .int .i64 6]) (by simp [results, Try.results12, go_sem, v0, v1, v2, v3, v4, v5]) rfl ?_
      exact ⟨HBL.out.drew, Or.inr ⟨HNE.out, _, HPO.out, by first | (rw [HPE.out]; done) | (rw [HPE.out]; rfl)⟩⟩
    · have b2 : decide ((x.2.1 : Int) < (s.size : Int)) = false := by simp; omega
      have HP2 : Hid (pe s = err x.1) := by show _ = _; rw [HP1.out, if_neg hlt]
      have hxs : x.2.1 = s.size := by have := hgo.2.1; omega
      have hrex := Ref_any t' (v6 q) w3.heap.size w3 HRX.out (Nat.le_refl _)
      rw [al_err HAL.out] at hrex
      obtain ⟨⟨d0, d1, d2, d3, d4, d5⟩, df0, df1, df2, df3, df4, df5⟩ := block6 hbm
      obtain ⟨r, HR⟩ : ∃ r, Hid (err x.1 = r) := ⟨_, (rfl : err x.1 = err x.1)⟩
      rw [HR.out] at hrex HP2
      have HREX : Hid (Calls Try.prog 7 #[.agg #[.int .i64 q.1, .int .u64 (q.2.1.1.toNat : Int), .int .u64 (q.2.1.2.1.toNat : Int), .int .u64 (q.2.1.2.2.1.toNat : Int), .int .u64 (q.2.1.2.2.2.toNat : Int), .slice q.2.2.1 q.2.2.2.1 q.2.2.2.2]] w3 fun e w' => e = .returned (.int .i64 (r : Int)) ∧ Below w3.heap.size w3 w') := hrex
      have HGOOD : Hid (r = 0 → t' = x.1) := fun h => al_good HAL.out (HR.out.trans h)
      clear hrex HP1 HR
      go_wp2_with fail
      refine HREX.out.mono ?_
      rintro _ w5 ⟨rfl, hb5⟩
      have HBw5 : Hid (Below w.heap.size w w5) := HBw3.out.trans (hb5.mono HBw3.out.size)
      have hbn : w5.heap[n]? = some (.cells #[.int .i64 0, .int .u64 0, .int .u64 0, .int .u64 0, .int .u64 0, .slice none 0 0] 27) := (hb5.block n (in_heap HNw3.out)).trans HNw3.out
      have hbm5 : w5.heap[m]? = some (.cells #[.int .i64 q.1, .int .u64 (q.2.1.1.toNat : Int), .int .u64 (q.2.1.2.1.toNat : Int), .int .u64 (q.2.1.2.2.1.toNat : Int), .int .u64 (q.2.1.2.2.2.toNat : Int), .slice q.2.2.1 q.2.2.2.1 q.2.2.2.2] 27) := (hb5.block m (in_heap hbm)).trans hbm
      have HB5 : Hid (Below w3.heap.size w3 w5) := hb5
      clear hb5 d0 df0 d1 df1 d2 df2 d3 df3 d4 df4 d5 df5 hbm c1 HREX
      by_cases hr : r = 0
      · subst hr
        obtain rfl := HGOOD.out rfl
        have HTP : Hid (pe s = 0) := HP2.out
        obtain ⟨⟨d0, d1, d2, d3, d4, d5⟩, df0, df1, df2, df3, df4, df5⟩ := block6 hbm5
        obtain ⟨⟨z0, z1, z2, z3, z4, z5⟩, zf0, zf1, zf2, zf3, zf4, zf5⟩ := block6 hbn
        obtain ⟨wz, HWZ⟩ : ∃ wz, Hid (((((((w5.setCell ⟨n, 0, none⟩ (.int .i64 q.1)).setCell ⟨n, 1, none⟩ (.int .u64 (q.2.1.1.toNat : Int))).setCell ⟨n, 2, none⟩ (.int .u64 (q.2.1.2.1.toNat : Int))).setCell ⟨n, 3, none⟩ (.int .u64 (q.2.1.2.2.1.toNat : Int))).setCell ⟨n, 4, none⟩ (.int .u64 (q.2.1.2.2.2.toNat : Int))).setCell ⟨n, 5, none⟩ (.slice q.2.2.1 q.2.2.2.1 q.2.2.2.2)) = wz) := ⟨_, (rfl : _ = _)⟩
        have hbz : wz.heap[n]? = some (.cells #[.int .i64 q.1, .int .u64 (q.2.1.1.toNat : Int), .int .u64 (q.2.1.2.1.toNat : Int), .int .u64 (q.2.1.2.2.1.toNat : Int), .int .u64 (q.2.1.2.2.2.toNat : Int), .slice q.2.2.1 q.2.2.2.1 q.2.2.2.2] 27) := by rw [← HWZ.out]; exact put6_at hbn _ _ _ _ _ _
        have HBL : Hid (Below w.heap.size w wz) := by
          show Below _ _ _
          rw [← HWZ.out]; exact put6_below HBw5.out n hnw _ _ _ _ _ _
        have sz : wz.heap.size = w5.heap.size := by rw [← HWZ.out]; exact put6_size _ _ _ _ _ _ _ _
        have HRXz : Hid (Rx wz wz.heap.size (v6 q) x.1) := by
          refine (HRY3.out.move (w' := wz) (A' := fun b => b < wz.heap.size) (fun z hz => by have := HB5.out.size; omega) (fun z hz => ?_)).rx fun b hb => hb
          rw [← HWZ.out]
          exact (put6_other w5 n _ _ _ _ _ _ z (by omega)).trans (HB5.out.block z hz.2)
        clear sz
        obtain ⟨⟨v0, v1, v2, v3, v4, v5⟩, vf0, vf1, vf2, vf3, vf4, vf5⟩ := block6 hbz
        clear hbn hbz hbm5 vf0 vf1 vf2 vf3 vf4 vf5
        go_wp2_with fail
        rw [HWZ.out]
        refine bodyPost_ret (v := .tuple #[.agg #[.int .i64 q.1, .int .u64 (q.2.1.1.toNat : Int), .int .u64 (q.2.1.2.1.toNat : Int), .int .u64 (q.2.1.2.2.1.toNat : Int), .int .u64 (q.2.1.2.2.2.toNat : Int), .slice q.2.2.1 q.2.2.2.1 q.2.2.2.2], .int .i64 0, .int .i64 0]) (by simp [results, Try.results12, go_sem, v0, v1, v2, v3, v4, v5]) rfl ?_
        exact ⟨HBL.out, Or.inl ⟨HTP.out, q, rfl, by rw [HTR.out]; exact HRXz.out⟩⟩
      · have b4 : ((r : Int) != 0) = true := bne_iff_ne.2 (by omega)
        have HNE : Hid (pe s ≠ 0) := by show _ ≠ _; rw [HP2.out]; exact hr
        have HPO : Hid (isPos s (s.size : Int)) := HPO0.out _ (by omega)
        obtain ⟨⟨z0, z1, z2, z3, z4, z5⟩, zf0, zf1, zf2, zf3, zf4, zf5⟩ := block6 hbn
        obtain ⟨wz, HWZ⟩ : ∃ wz, Hid (((((((w5.setCell ⟨n, 0, none⟩ (.int .i64 0)).setCell ⟨n, 1, none⟩ (.int .u64 0)).setCell ⟨n, 2, none⟩ (.int .u64 0)).setCell ⟨n, 3, none⟩ (.int .u64 0)).setCell ⟨n, 4, none⟩ (.int .u64 0)).setCell ⟨n, 5, none⟩ (.slice none 0 0)) = wz) := ⟨_, (rfl : _ = _)⟩
        have hbz : wz.heap[n]? = some (.cells #[.int .i64 0, .int .u64 0, .int .u64 0, .int .u64 0, .int .u64 0, .slice none 0 0] 27) := by rw [← HWZ.out]; exact put6_at hbn _ _ _ _ _ _
        have HBL : Hid (Below w.heap.size w wz) := by
          show Below _ _ _
          rw [← HWZ.out]; exact put6_below HBw5.out n hnw _ _ _ _ _ _
        obtain ⟨⟨v0, v1, v2, v3, v4, v5⟩, vf0, vf1, vf2, vf3, vf4, vf5⟩ := block6 hbz
        clear hbn hbz hbm5 vf0 vf1 vf2 vf3 vf4 vf5
        go_wp2_with fail
        rw [HWZ.out]
        refine bodyPost_ret (v := .tuple #[.agg #[.int .i64 0, .int .u64 0, .int .u64 0, .int .u64 0, .int .u64 0, .slice none 0 0], .int .i64 (s.size : Int), .int .i64 (r : Int)]) (by simp [results, Try.results12, go_sem, v0, v1, v2, v3, v4, v5]) rfl ?_
        exact ⟨HBL.out, Or.inr ⟨HNE.out, _, HPO.out, by rw [HP2.out]⟩⟩
  · subst hbb
    have HPE : Hid (pe s = x.2.2) := by show _ = _; rw [HPE0.out, if_neg he]
    have HNE : Hid (pe s ≠ 0) := by show _ ≠ _; rw [HPE.out]; exact he
    have HPO : Hid (isPos s (x.2.1 : Int)) := HPO0.out _ rfl
    have HSP : Hid (St st x.2.2 x.2.1 w3) := hst
    clear hst he HQ3 hbm HPE0
    have cs0 := HSP.out.cells.1
    have cs1 := HSP.out.cells.2
    have hbn := HNw3.out
    obtain ⟨⟨z0, z1, z2, z3, z4, z5⟩, zf0, zf1, zf2, zf3, zf4, zf5⟩ := block6 hbn
    obtain ⟨wz, HWZ⟩ : ∃ wz, Hid (((((((w3.setCell ⟨n, 0, none⟩ (.int .i64 0)).setCell ⟨n, 1, none⟩ (.int .u64 0)).setCell ⟨n, 2, none⟩ (.int .u64 0)).setCell ⟨n, 3, none⟩ (.int .u64 0)).setCell ⟨n, 4, none⟩ (.int .u64 0)).setCell ⟨n, 5, none⟩ (.slice none 0 0)) = wz) := ⟨_, (rfl : _ = _)⟩
    have hbz : wz.heap[n]? = some (.cells #[.int .i64 0, .int .u64 0, .int .u64 0, .int .u64 0, .int .u64 0, .slice none 0 0] 27) := by rw [← HWZ.out]; exact put6_at hbn _ _ _ _ _ _
    have HBL : Hid (Below w.heap.size w wz) := by
      show Below _ _ _
      rw [← HWZ.out]; exact put6_below HBw3.out n hnw _ _ _ _ _ _
    have hstz : St st x.2.2 x.2.1 wz := by rw [← HWZ.out]; exact (put6_other w3 n _ _ _ _ _ _ st (st_ne HSP.out hbn)).trans HSP.out
    have ct0 := hstz.cells.1
    have ct1 := hstz.cells.2
    rw [← HWZ.out] at ct0 ct1
    obtain ⟨⟨v0, v1, v2, v3, v4, v5⟩, vf0, vf1, vf2, vf3, vf4, vf5⟩ := block6 hbz
    clear hbn hbz hstz vf0 vf1 vf2 vf3 vf4 vf5
    go_upto_region 8 with fail
    go_region
    rw [HWZ.out]
    clear z0 zf0 z1 zf1 z2 zf2 z3 zf3 z4 zf4 z5 zf5
    go_wp2_with fail
    refine bodyPost_ret (v := .tuple #[.agg #[.int .i64 0, .int .u64 0, .int .u64 0, .int .u64 0, .int .u64 0, .slice none 0 0], .int .i64 (x.2.1 : Int), .int .i64 (x.2.2 : Int)]) (by simp [results, Try.results12, go_sem, v0, v1, v2, v3, v4, v5]) rfl ?_
    exact ⟨HBL.out.drew, Or.inr ⟨HNE.out, _, HPO.out, by first | (rw [HPE.out]; done) | (rw [HPE.out]; rfl)⟩⟩
set_option maxHeartbeats 8000000 in
set_option maxRecDepth 20000 in
theorem ReadRex_large (s : ByteArray) (hs : 300 < s.size) (w : World) :
    Calls Try.prog 12 #[.string s] w fun e w' => e = .returned (.tuple #[.agg #[.int .i64 0, .int .u64 0, .int .u64 0, .int .u64 0, .int .u64 0, .slice none 0 0], .int .i64 0, .int .i64 2]) ∧ Below w.heap.size w w' := by
  have b1 : decide ((300 : Int) < (s.size : Int)) = true := by simp; omega
  have HB : Hid (Below w.heap.size w (w.alloc (Obj.cells #[.int .i64 0, .int .u64 0, .int .u64 0, .int .u64 0, .int .u64 0, .slice none 0 0] 27))) := bal _ _
  have r0 := row_zero6 w
  have z0 := r0.cell (i := 0) (by omega)
  have z1 := r0.cell (i := 1) (by omega)
  have z2 := r0.cell (i := 2) (by omega)
  have z3 := r0.cell (i := 3) (by omega)
  have z4 := r0.cell (i := 4) (by omega)
  have z5 := r0.cell (i := 5) (by omega)
  simp only [] at z0 z1 z2 z3 z4 z5
  clear r0
  go_enter Try.func12, Try.ntmps12
  go_wp2_with fail
  exact bodyPost_ret (v := .tuple #[.agg #[.int .i64 0, .int .u64 0, .int .u64 0, .int .u64 0, .int .u64 0, .slice none 0 0], .int .i64 0, .int .i64 2]) (by simp [results, Try.results12, go_sem, z0, z1, z2, z3, z4, z5]) rfl ⟨rfl, HB.out⟩
end Go.Proofs.Ythloedfiomfnbaa

namespace Go.Proofs.Ythloedfiomfnbaa
open Go.RowKit
open Cls Rex Txt

/-- The class that the row of a class tells. -/
theorem wher_row (c : Cl) (o : Bool) : wher (fun x => (mem c x) != o) = if o then neg c else c := by
  cases o with
  | false =>
    simp only [Bool.false_eq_true, if_false]
    apply ext_mem
    intro x hx
    rw [mem_wher _ _ hx]; simp
  | true =>
    simp only [if_true]
    apply ext_mem
    intro x hx
    rw [mem_wher _ _ hx, mem_neg]; cases mem c x <;> rfl
/-- A range that is one is not empty. -/
theorem range_some (lo hi : Nat) (h : lo ≤ hi) (hl : lo < 256) : mem (range lo hi) lo = true := by
  rw [mem_range _ _ _ hl]; simp; omega
theorem ne_empty {c : Cl} {x : Nat} (h : mem c x = true) : c ≠ Cls.empty := fun e => by rw [e, mem_empty] at h; cases h
theorem join_mem (c d : Cl) (x : Nat) : mem (join c d) x = (mem c x || mem d x) := mem_join c d x
/-- Nothing is taken out. -/
theorem itemsR_keep (s : ByteArray) : ∀ n i c x, mem c x = true → mem (itemsR s n i c).1 x = true
  | 0, _, _, _, h => h
  | n + 1, i, c, x, h => by
    unfold itemsR
    split
    · exact h
    · split
      · exact h
      · exact itemsR_keep s n _ _ x (by rw [join_mem, h]; rfl)
/-- One item is a range that is one. -/
theorem itemR_some (s : ByteArray) (i : Nat) (hi : i ≤ s.size) (h : (itemR s i).2.2 = 0) : ∃ x, mem (itemR s i).1 x = true := by
  have h1 := charR_rd s i hi
  revert h
  unfold itemR
  split
  · intro _; exact ⟨_, range_some _ _ (Nat.le_refl _) h1.v⟩
  · split
    · intro h; simp at h
    · rename_i hn hm
      intro h
      refine ⟨(charR s i).1, range_some _ _ ?_ h1.v⟩
      have : ¬ (charR s ((charR s i).2.1 + 1)).1 < (charR s i).1 := fun e => hm ⟨h, e⟩
      omega
/-- What is read behind a bracket is not empty, but where nothing stands in it. -/
theorem itemsR_some (s : ByteArray) (n i : Nat) (hi : i ≤ s.size) (hb : bt s i ≠ 93) (h : (itemsR s (n + 1) i Cls.empty).2.2 = 0) : (itemsR s (n + 1) i Cls.empty).1 ≠ Cls.empty := by
  unfold itemsR at h ⊢
  rw [if_neg hb] at h ⊢
  split at h
  · rename_i h2; exact absurd h h2
  · rename_i h2
    rw [if_neg h2]
    obtain ⟨x, hx⟩ := itemR_some s i hi (Classical.byContradiction h2)
    exact ne_empty (itemsR_keep s n _ _ x (by rw [join_mem, hx]; simp))
theorem zero110 : ∃ zs : Array Value, (∀ w, (zeroValue 110).run Try.prog w = .ok (.agg zs) w) ∧ zs.size = 256 ∧ ∀ i, i < 256 → zs[i]? = some (.int .i64 0) :=
  ⟨_, (zero_of_info (P := Try.prog) (t := 110) (v := .agg (Array.replicate 256 (.int .i64 0))) (n := 256) (by kernel_rfl)).1, by simp, fun i hi => by simp [hi]⟩
end Go.Proofs.Ythloedfiomfnbaa

namespace Go.Proofs.Ythloedfiomfnbaa
open Go.RowKit
open Cls Rex Txt

set_option maxHeartbeats 8000000 in
set_option maxRecDepth 20000 in
theorem clos85 (x : Nat) (hx : x < 256) (c : Cl) (o : Bool) (rb m : Nat) (W : World) (hrow : W.rowIs rb 110 256 (fun x => .int .i64 (if mem c x then 1 else 0))) (hm : W.heap[m]? = some (.cells #[.bool o] 4)) : Calls Try.prog 85 (#[.int .i64 (x : Int)] ++ #[.pointer (some ⟨rb, 0, none⟩), .pointer (some ⟨m, 0, none⟩)]) W fun e w' => e = .returned (.bool (mem c x != o)) ∧ Below W.heap.size W w' := by
  show Calls Try.prog 85 #[.int .i64 (x : Int), .pointer (some ⟨rb, 0, none⟩), .pointer (some ⟨m, 0, none⟩)] W _
  have c0 : W.cell? ⟨m, 0, none⟩ = some (.bool o) := by simp [World.cell?, hm]
  have cx := hrow.cell hx
  obtain ⟨b, HB⟩ : ∃ b, Hid (mem c x = b) := ⟨_, (rfl : mem c x = mem c x)⟩
  rw [HB.out]
  simp only [HB.out] at cx
  clear hrow hm
  cases b with
  | true =>
    simp only [if_true] at cx
    go_enter Try.func85, Try.ntmps85
    go_wp2_with (go_quiet (fail))
    go_ret
    exact ⟨by cases o <;> rfl, below_drewN (Below.refl _ _) _⟩
  | false =>
    simp only [Bool.false_eq_true, if_false] at cx
    go_enter Try.func85, Try.ntmps85
    go_wp2_with (go_quiet (fail))
    go_ret
    exact ⟨by cases o <;> rfl, below_drewN (Below.refl _ _) _⟩
end Go.Proofs.Ythloedfiomfnbaa

namespace Go.Proofs.Ythloedfiomfnbaa
open Go.RowKit
open Cls Rex Txt

def Ob (p : Prop) (o : Bool) : Prop := p ∨ o = true
def put4 (W : World) (b : Nat) (v0 v1 v2 v3 : Value) : World := (((W.setCell ⟨b, 0, none⟩ v0).setCell ⟨b, 1, none⟩ v1).setCell ⟨b, 2, none⟩ v2).setCell ⟨b, 3, none⟩ v3
theorem put4_fm (W : World) (n : Nat) (v0 v1 v2 v3 : Value) : Fm (fun b => b = n) W (put4 W n v0 v1 v2 v3) :=
  (((Fm.set (X := fun b => b = n) _ rfl).trans (Fm.set (X := fun b => b = n) _ rfl) fun _ _ e => e).trans (Fm.set (X := fun b => b = n) _ rfl) fun _ _ e => e).trans (Fm.set (X := fun b => b = n) _ rfl) fun _ _ e => e
theorem put4_st (W : World) (n : Nat) (v0 v1 v2 v3 : Value) (e i : Nat) : St W.heap.size e i ((put4 W n v0 v1 v2 v3).alloc (.cells #[.int .i64 (e : Int), .int .i64 (i : Int)] 62)) := by
  have h := St.new (put4 W n v0 v1 v2 v3) e i
  rw [show (put4 W n v0 v1 v2 v3).heap.size = W.heap.size by unfold put4; simp [World.setCell]] at h
  exact h
theorem put4_at {W : World} {b : Nat} {x0 x1 x2 x3 : Value} (h : W.heap[b]? = some (.cells #[x0, x1, x2, x3] 24)) (v0 v1 v2 v3 : Value) : (put4 W b v0 v1 v2 v3).heap[b]? = some (.cells #[v0, v1, v2, v3] 24) := by
  unfold put4
  simp only [World.setCell, Array.getElem?_modify, if_true, h]
  rfl
theorem block4k {W : World} {b : Nat} {v0 v1 v2 v3 : Value} (h : W.heap[b]? = some (.cells #[v0, v1, v2, v3] 24)) :
    (W.cell? ⟨b, 0, none⟩ = some v0 ∧ W.cell? ⟨b, 1, none⟩ = some v1 ∧ W.cell? ⟨b, 2, none⟩ = some v2 ∧ W.cell? ⟨b, 3, none⟩ = some v3) ∧ (W.frozen? ⟨b, 0, none⟩ = false ∧ W.frozen? ⟨b, 1, none⟩ = false ∧ W.frozen? ⟨b, 2, none⟩ = false ∧ W.frozen? ⟨b, 3, none⟩ = false) := by
  simp [World.cell?, World.frozen?, h]
def rowf (c : Cl) : Nat → Value := fun x => .int .i64 (if mem c x then 1 else 0)
def rowg (c : Cl) (lo b : Nat) : Nat → Value := fun x => .int .i64 (if (mem c x || (decide (lo ≤ x) && decide (x < b))) = true then 1 else 0)
theorem rowg_start (c : Cl) (lo x : Nat) : rowf c x = rowg c lo lo x := by
  unfold rowf rowg
  have : (decide (lo ≤ x) && decide (x < lo)) = false := by
    by_cases h : lo ≤ x
    · rw [decide_eq_false (by omega : ¬ x < lo)]; simp
    · rw [decide_eq_false h]; rfl
  rw [this]; simp
theorem rowg_step (c : Cl) (lo b x : Nat) (hb : lo ≤ b) : (if x = b then Value.int .i64 1 else rowg c lo b x) = rowg c lo (b + 1) x := by
  unfold rowg
  by_cases h : x = b
  · subst h
    rw [if_pos rfl, decide_eq_true hb, decide_eq_true (by omega : x < x + 1)]; simp
  · rw [if_neg h]
    have : decide (x < b) = decide (x < b + 1) := by
      by_cases h2 : x < b
      · rw [decide_eq_true h2, decide_eq_true (by omega)]
      · rw [decide_eq_false h2, decide_eq_false (by omega)]
    rw [this]
theorem rowg_end (c : Cl) (lo hi x : Nat) (hx : x < 256) : rowg c lo (hi + 1) x = rowf (join c (range lo hi)) x := by
  unfold rowf rowg
  rw [mem_join, mem_range _ _ _ hx]
  have e1 : decide ((lo : Int) ≤ (x : Int)) = decide (lo ≤ x) := by
    by_cases h : lo ≤ x
    · rw [decide_eq_true h, decide_eq_true (by omega)]
    · rw [decide_eq_false h, decide_eq_false (by omega)]
  have e2 : decide ((x : Int) ≤ (hi : Int)) = decide (x < hi + 1) := by
    by_cases h : x < hi + 1
    · rw [decide_eq_true h, decide_eq_true (by omega)]
    · rw [decide_eq_false h, decide_eq_false (by omega)]
  rw [e1, e2]
theorem st4_ne {W : World} {st e i n : Nat} {z : Array Value} (h : St st e i W) (hn : W.heap[n]? = some (.cells z 24)) : st ≠ n := by
  rintro rfl
  unfold St at h
  rw [hn] at h
  injection h with h; injection h with _ h2; cases h2
/-- What holds while a class is read. -/
structure KL (g : Nat) (s : ByteArray) (k : Value) (w : World) (n m rb j : Nat) (f : Nat → Value) (o : Bool) (W : World) : Prop where
  gr : Fm (fun b => b = g) w W
  bn : W.heap[n]? = some (.cells #[.int .u64 0, .int .u64 0, .int .u64 0, .int .u64 0] 24)
  bm : W.heap[m]? = some (.cells #[.bool o] 4)
  row : W.rowIs rb 110 256 f
  pt : Pt g s j k W
theorem KL.below {g : Nat} {s : ByteArray} {k : Value} {w : World} {n m rb j : Nat} {f : Nat → Value} {o : Bool} {W W' : World} (h : KL g s k w n m rb j f o W) (hb : Below W.heap.size W W') : KL g s k w n m rb j f o W' :=
  ⟨h.gr.trans (Fm.of (X := fun b => b = g) hb) fun _ _ e => e, (hb.block n (in_heap h.bn)).trans h.bn, (hb.block m (in_heap h.bm)).trans h.bm, h.row.of_block (hb.block rb h.row.lt), h.pt.next hb⟩
theorem KL.fm {g : Nat} {s : ByteArray} {k : Value} {w : World} {n m rb j j' : Nat} {f : Nat → Value} {o : Bool} {W W' : World} (h : KL g s k w n m rb j f o W) (hb : Fm (fun b => b = g) W W') (hg : g < w.heap.size) (hn : w.heap.size ≤ n) (hm : w.heap.size ≤ m) (hr : w.heap.size ≤ rb) (hp : Pt g s j' k W') : KL g s k w n m rb j' f o W' :=
  ⟨h.gr.trans hb fun _ _ e => e, (hb.block n (in_heap h.bn) (by omega)).trans h.bn, (hb.block m (in_heap h.bm) (by omega)).trans h.bm, h.row.of_block (hb.block rb h.row.lt (by omega)), hp⟩
theorem KL.again {g : Nat} {s : ByteArray} {k : Value} {w : World} {n m rb j : Nat} {f f' : Nat → Value} {o : Bool} {W : World} (h : KL g s k w n m rb j f o W) (e : ∀ x, x < 256 → f x = f' x) : KL g s k w n m rb j f' o W := ⟨h.gr, h.bn, h.bm, h.row.congr e, h.pt⟩
theorem KL.put {g : Nat} {s : ByteArray} {k : Value} {w : World} {n m rb j : Nat} {c : Cl} {lo b : Nat} {o : Bool} {W W' : World} (h : KL g s k w n m rb j (rowg c lo b) o W) (hb : lo ≤ b) (hlt : g < w.heap.size) (hrw : w.heap.size ≤ rb) (hn : n ≠ rb) (hm : m ≠ rb) (hz : W.setCell ⟨rb, b, none⟩ (.int .i64 1) = W') : KL g s k w n m rb j (rowg c lo (b + 1)) o W' := by
  have hf : Fm (fun b => b = rb) W W' := by rw [← hz]; exact Fm.set _ rfl
  refine ⟨h.gr.trans hf fun q hq e => by omega, (hf.block n (in_heap h.bn) hn).trans h.bn, (hf.block m (in_heap h.bm) hm).trans h.bm, ?_, h.pt.other hf (by omega)⟩
  rw [← hz]
  exact (h.row.set b _).congr fun x hx => rowg_step c lo b x hb
theorem Pt.step1 {g : Nat} {s : ByteArray} {i : Nat} {k : Value} {W : World} (h : Pt g s i k W) : Pt g s (i + 1) k (W.setCell ⟨g, 1, none⟩ (.int .i64 ((i : Int) + 1))) := pt_step h
set_option maxHeartbeats 8000000 in
set_option maxRecDepth 20000 in
theorem rclass_any (s : ByteArray) (hs : s.size ≤ 300) (k : Value) : KC s k := by
  intro g i w hP hi hn93
  have hlt := hP.lt
  obtain ⟨n, HN⟩ : ∃ n, Hid (w.heap.size = n) := ⟨_, (rfl : w.heap.size = w.heap.size)⟩
  obtain ⟨W0, HW⟩ : ∃ W0, Hid (w.alloc (.cells #[.int .u64 0, .int .u64 0, .int .u64 0, .int .u64 0] 24) = W0) := ⟨_, (rfl : _ = _)⟩
  have hB0 : Below w.heap.size w W0 := HW.out ▸ bal_ _ _
  have hnw : w.heap.size ≤ n := by rw [HN.out]; exact Nat.le_refl _
  have HP0 : Hid (Pt g s i k W0) := hP.next hB0
  have HB0 : Hid (Below w.heap.size w W0) := hB0
  have HNB : Hid (W0.heap[n]? = some (.cells #[.int .u64 0, .int .u64 0, .int .u64 0, .int .u64 0] 24)) := by
    show _ = _
    rw [← HN.out, ← HW.out]; exact block_new w _
  obtain ⟨rr, HRR⟩ : ∃ rr, Hid (setR s i = rr) := ⟨_, (rfl : setR s i = setR s i)⟩
  rw [HRR.out]
  obtain ⟨p0, HPK⟩ : ∃ p0, Hid (pk s i = p0) := ⟨_, (rfl : pk s i = pk s i)⟩
  have h94 := pk_is s i 94 (by omega)
  rw [HPK.out] at h94
  obtain ⟨zs, hz110, hzs, hzz⟩ := zero110
  have HZZ : Hid (∀ i, i < 256 → zs[i]? = some (.int .i64 0)) := hzz
  have HZS : Hid (zs.size = 256) := hzs
  clear hP hB0 hzz hzs
  go_enter Try.func77, Try.ntmps77
  go_upto_region 1 with fail
  rw [HN.out, HW.out]
  clear HN HW
  go_wp2_with fail
  refine (peek_any g s i k _ HP0.out).mono ?_
  rintro _ w1 ⟨rfl, hb⟩
  have HP1 : Hid (Pt g s i k w1) := HP0.out.next hb
  have HB1 : Hid (Below w.heap.size w w1) := HB0.out.trans (hb.mono HB0.out.size)
  have HN1 : Hid (w1.heap[n]? = some (.cells #[.int .u64 0, .int .u64 0, .int .u64 0, .int .u64 0] 24)) := (hb.block n (in_heap HNB.out)).trans HNB.out
  clear hb HP0 HB0 HNB
  rw [HPK.out]
  obtain ⟨m, HM⟩ : ∃ m, Hid (w1.heap.size = m) := ⟨_, (rfl : w1.heap.size = w1.heap.size)⟩
  by_cases e94 : p0 = 94
  · have e94b : (p0 == 94) = true := by simp [e94]
    obtain ⟨W2, HW2⟩ : ∃ W2, Hid (w1.alloc (.cells #[.bool true] 4) = W2) := ⟨_, (rfl : _ = _)⟩
    have hB2 : Below w1.heap.size w1 W2 := HW2.out ▸ bal_ _ _
    have hbm : W2.heap[m]? = some (.cells #[.bool true] 4) := by rw [← HM.out, ← HW2.out]; exact block_new w1 _
    have hbl : W2.cell? ⟨m, 0, none⟩ = some (.bool true) := by simp [World.cell?, hbm]
    have hmw : w.heap.size ≤ m := by rw [← HM.out]; exact HB1.out.size
    have HP2 : Hid (Pt g s i k W2) := HP1.out.next hB2
    have HB2 : Hid (Below w.heap.size w W2) := HB1.out.trans (hB2.mono HB1.out.size)
    have HN2 : Hid (W2.heap[n]? = some (.cells #[.int .u64 0, .int .u64 0, .int .u64 0, .int .u64 0] 24)) := (hB2.block n (in_heap HN1.out)).trans HN1.out
    go_upto_region 2 with fail
    rw [HM.out, HW2.out]
    clear hB2 HW2 HM HP1 HB1 HN1
    have hil : i < s.size := bt_is (h94.1 e94) (by decide)
    have c1 := HP2.out.cells.1.2.1
    have f1 := HP2.out.cells.2.2.1
    obtain ⟨W3, HW3⟩ : ∃ W3, Hid (W2.setCell ⟨g, 1, none⟩ (.int .i64 ((i : Int) + 1)) = W3) := ⟨_, (rfl : _ = _)⟩
    have hf3 : Fm (fun b => b = g) W2 W3 := by rw [← HW3.out]; exact Fm.set _ rfl
    have HP3 : Hid (Pt g s (i + 1) k W3) := by
      show Pt _ _ _ _ _
      rw [← HW3.out]; exact pt_step HP2.out
    go_upto_region 4 with fail
    rw [HW3.out]
    clear c1 f1 HW3 hbl
    obtain ⟨st, HSTT⟩ : ∃ st, Hid (i + 1 = st) := ⟨_, (rfl : i + 1 = i + 1)⟩
    have hst : st ≤ s.size := by rw [← HSTT.out]; omega
    rw [HSTT.out] at HP3
    have HS93 : Hid (Ob (bt s st ≠ 93) true) := Or.inr rfl
    have HSE : Hid (rr = setE true (itemsR s (s.size + 1) st Cls.empty)) := by show _ = _; rw [← HRR.out, ← HSTT.out]; unfold setR; rw [if_pos (h94.1 e94)]
    obtain ⟨rb, HRB⟩ : ∃ rb, Hid (W3.heap.size = rb) := ⟨_, (rfl : W3.heap.size = W3.heap.size)⟩
    obtain ⟨W4, HW4⟩ : ∃ W4, Hid (W3.alloc (.cells zs 110) = W4) := ⟨_, (rfl : _ = _)⟩
    have hB4 : Below W3.heap.size W3 W4 := HW4.out ▸ bal_ _ _
    have hrw : w.heap.size ≤ rb := by rw [← HRB.out]; exact Nat.le_trans HB2.out.size hf3.size
    have hrow : W4.rowIs rb 110 256 (rowf Cls.empty) := by
      rw [← HRB.out, ← HW4.out, ← HZS.out]
      refine World.rowIs_alloc W3 zs 110 (rowf Cls.empty) fun x hx => ?_
      rw [HZS.out] at hx
      rw [HZZ.out x hx]; unfold rowf; rw [mem_empty]; rfl
    have HK4 : Hid (KL g s k w n m rb st (rowf Cls.empty) true W4) := by
      have hf4 : Fm (fun b => b = g) W2 W4 := hf3.trans (Fm.of (X := fun b => b = g) hB4) fun _ _ e => e
      exact ⟨(Fm.of HB2.out).trans hf4 fun _ _ e => e, (hf4.block n (in_heap HN2.out) (by omega)).trans HN2.out, (hf4.block m (in_heap hbm) (by omega)).trans hbm, hrow, HP3.out.next hB4⟩
    obtain ⟨R0, HR0⟩ : ∃ R0, Hid (itemsR s (s.size + 1) st Cls.empty = R0) := ⟨_, (rfl : _ = _)⟩
    rw [HR0.out] at HSE
    have HSOME : Hid (true = false → R0.2.2 = 0 → R0.1 ≠ Cls.empty) := fun h => absurd h (by simp)
    go_upto_region 5 with fail
    rw [HRB.out, HW4.out]
    have hnr : n ≠ rb := by have := in_heap HN2.out; have := hf3.size; rw [← HRB.out]; omega
    have hmr : m ≠ rb := by have := in_heap hbm; have := hf3.size; rw [← HRB.out]; omega
    clear hB4 hf3 hrow hbm HP3 HB2 HN2 HP2 HRB HW4 HZZ HZS hz110 h94 HPK HRR HSTT
    go_upto_region 6 with fail
    go_loopw [6] (fun vv wr => ∃ (ct j : Nat) (c : Cl), vv = .int .i64 (ct : Int) ∧ j ≤ s.size ∧ ct ≤ j ∧ Hid ((ct = 0 → Ob (bt s j ≠ 93) true) ∧ KL g s k w n m rb j (rowf c) true wr ∧ itemsR s (s.size + 1) j c = R0)) (fun vv wr => s.size - posOf g wr)
    case atStart => exact ⟨0, st, Cls.empty, rfl, hst, Nat.zero_le _, fun _ => HS93.out, HK4.out, HR0.out⟩
    case round =>
      clear HK4 HR0 HS93
      obtain ⟨ct, j, c, rfl, hj, hct, HL⟩ := hrel
      have HKr : Hid (KL g s k w n m rb j (rowf c) true wr) := HL.out.2.1
      have HPOS : Hid (posOf g wr = j) := HL.out.2.1.pt.pos
      have HIT : Hid (itemsR s (s.size + 1) j c = R0) := HL.out.2.2
      have HCT : Hid (ct = 0 → Ob (bt s j ≠ 93) true) := HL.out.1
      clear HL
      obtain ⟨p0, HP0⟩ : ∃ p0, Hid (pk s j = p0) := ⟨_, (rfl : pk s j = pk s j)⟩
      have h93 := pk_is s j 93 (by omega)
      rw [HP0.out] at h93
      go_wp2_with fail
      refine (peek_any g s j k _ HKr.out.pt).mono ?_
      rintro _ wp ⟨rfl, hb⟩
      have HKp : Hid (KL g s k w n m rb j (rowf c) true wp) := HKr.out.below hb
      clear hb HKr
      rw [HP0.out]
      by_cases e93 : p0 = 93
      · have HRE : Hid (R0 = (c, j, 0)) := by show _ = _; rw [← HIT.out]; unfold itemsR; rw [if_pos (h93.1 e93)]
        have hz := HCT.out
        have hb93 := h93.1 e93
        subst e93
        obtain ⟨D, HDD⟩ : ∃ D, Hid ((if true = true then neg c else c) = D) := ⟨_, (rfl : _ = _)⟩
        have hwh := where_any 85 #[.pointer (some ⟨rb, 0, none⟩), .pointer (some ⟨m, 0, none⟩)] (fun x => (mem c x) != true) wp (enters_of Try.func85 (by kernel_rfl) rfl) fun W1 x hx hb => clos85 x hx c true rb m W1 (HKp.out.row.of_block (hb.block rb HKp.out.row.lt)) ((hb.block m (in_heap HKp.out.bm)).trans HKp.out.bm)
        rw [wher_row, HDD.out] at hwh
        have HWH : Hid (Calls Try.prog 22 #[.func (.func 85) #[] #[.pointer (some ⟨rb, 0, none⟩), .pointer (some ⟨m, 0, none⟩)]] wp fun e w' => e = .returned (.agg #[.int .u64 ((D).1.toNat : Int), .int .u64 ((D).2.1.toNat : Int), .int .u64 ((D).2.2.1.toNat : Int), .int .u64 ((D).2.2.2.toNat : Int)]) ∧ Below wp.heap.size wp w') := hwh
        have hmf : ∀ (fn : Fn) (first cap : Array Value) (w : World), (Instr.makeFunc fn first cap).run Try.prog w = .ok (.func fn first cap) w := fun _ _ _ _ => rfl
        clear hwh
        by_cases hc0 : ct = 0
        · have hcb : ((ct : Int) == 0) = true := by simp [hc0]
          have hbl : wp.cell? ⟨m, 0, none⟩ = some (.bool true) := by have := HKp.out.bm; simp [World.cell?, this]
          go_wp2_with fail
          refine HWH.out.mono ?_
          rintro _ wh ⟨rfl, hbh⟩
          have HKh : Hid (KL g s k w n m rb j (rowf c) true wh) := HKp.out.below hbh
          obtain ⟨md, HMD⟩ : ∃ md, Hid (wh.heap.size = md) := ⟨_, (rfl : wh.heap.size = wh.heap.size)⟩
          obtain ⟨W9, HW9⟩ : ∃ W9, Hid (wh.alloc (.cells #[.int .u64 ((D).1.toNat : Int), .int .u64 ((D).2.1.toNat : Int), .int .u64 ((D).2.2.1.toNat : Int), .int .u64 ((D).2.2.2.toNat : Int)] 24) = W9) := ⟨_, (rfl : _ = _)⟩
          have hB9 : Below wh.heap.size wh W9 := HW9.out ▸ bal_ _ _
          have HK9 : Hid (KL g s k w n m rb j (rowf c) true W9) := HKh.out.below hB9
          have hmdw : w.heap.size ≤ md := by rw [← HMD.out]; exact HKh.out.gr.size
          have hbd : W9.heap[md]? = some (.cells #[.int .u64 ((D).1.toNat : Int), .int .u64 ((D).2.1.toNat : Int), .int .u64 ((D).2.2.1.toNat : Int), .int .u64 ((D).2.2.2.toNat : Int)] 24) := by rw [← HMD.out, ← HW9.out]; exact block_new wh _
          have heq : ∀ w, (binOp .eql 24 (.agg #[.int .u64 ((D).1.toNat : Int), .int .u64 ((D).2.1.toNat : Int), .int .u64 ((D).2.2.1.toNat : Int), .int .u64 ((D).2.2.2.toNat : Int)]) (.agg #[.int .u64 0, .int .u64 0, .int .u64 0, .int .u64 0])).run Try.prog w = .ok (.bool (decide (D = Cls.empty))) w := fun w => eql24 D Cls.empty w
          have y0 : W9.cell? ⟨md, 0, none⟩ = some (.int .u64 ((D).1.toNat : Int)) := by simp [World.cell?, hbd]
          have y1 : W9.cell? ⟨md, 1, none⟩ = some (.int .u64 ((D).2.1.toNat : Int)) := by simp [World.cell?, hbd]
          have y2 : W9.cell? ⟨md, 2, none⟩ = some (.int .u64 ((D).2.2.1.toNat : Int)) := by simp [World.cell?, hbd]
          have y3 : W9.cell? ⟨md, 3, none⟩ = some (.int .u64 ((D).2.2.2.toNat : Int)) := by simp [World.cell?, hbd]
          go_upto_region 23 with fail
          rw [HMD.out, HW9.out]
          clear hbh HKh hB9 HMD HW9 HWH hmf HKp
          by_cases hD : D = Cls.empty
          · have hDb : decide (D = Cls.empty) = true := by simp [hD]
            rw [hDb] at heq
            have HF : Hid (rr = (0, Cls.empty, j, 6)) := by
              show _ = _
              rw [HSE.out, HRE.out]
              unfold setE
              simp only [ne_eq, not_true_eq_false, if_false]
              rw [HDD.out, if_pos hD]
              rfl
            clear hDb hD
            have hnl := in_heap HK9.out.bn
            have hml := in_heap hbd
            have hbnE : (W9.alloc (.cells #[.int .i64 6, .int .i64 (j : Int)] 62)).heap[n]? = some (.cells #[.int .u64 0, .int .u64 0, .int .u64 0, .int .u64 0] 24) := (Below.heap_alloc _ _ _ hnl).trans HK9.out.bn
            have hbdE : (W9.alloc (.cells #[.int .i64 6, .int .i64 (j : Int)] 62)).heap[md]? = some (.cells #[.int .u64 ((D).1.toNat : Int), .int .u64 ((D).2.1.toNat : Int), .int .u64 ((D).2.2.1.toNat : Int), .int .u64 ((D).2.2.2.toNat : Int)] 24) := (Below.heap_alloc _ _ _ hml).trans hbd
            obtain ⟨⟨x0, x1, x2, x3⟩, xf0, xf1, xf2, xf3⟩ := block4k HK9.out.bn
            obtain ⟨⟨xe0, xe1, xe2, xe3⟩, xef0, xef1, xef2, xef3⟩ := block4k hbnE
            obtain ⟨⟨ye0, ye1, ye2, ye3⟩, -⟩ := block4k hbdE
            have HPS : Hid (Pt g s j k (put4 W9 n (.int .u64 ((D).1.toNat : Int)) (.int .u64 ((D).2.1.toNat : Int)) (.int .u64 ((D).2.2.1.toNat : Int)) (.int .u64 ((D).2.2.2.toNat : Int)))) := HK9.out.pt.other (put4_fm _ _ _ _ _ _) (by omega)
            clear hbnE hbdE
            go_upto_region 24 with fail
            go_region_with ((go_at_call 29; refine (wrong_any g s j k _ (by first | exact HK9.out.pt | exact HPS.out)).mono ?_; rintro _ wx ⟨rfl, hwx⟩; subst hwx))
            all_goals
              obtain ⟨wz, HWZ⟩ : ∃ wz, Hid ((((((W9.setCell ⟨n, 0, none⟩ (.int .u64 ((D).1.toNat : Int))).setCell ⟨n, 1, none⟩ (.int .u64 ((D).2.1.toNat : Int))).setCell ⟨n, 2, none⟩ (.int .u64 ((D).2.2.1.toNat : Int))).setCell ⟨n, 3, none⟩ (.int .u64 ((D).2.2.2.toNat : Int))).alloc (.cells #[.int .i64 6, .int .i64 (j : Int)] 62)).drew = wz) := ⟨_, (rfl : _ = _)⟩
              rw [HWZ.out]
              have hfz : Fm (fun b => b = n) W9 wz := by rw [← HWZ.out]; exact ((put4_fm _ n _ _ _ _).trans (Fm.of (X := fun b => b = n) (bal_ _ _)) fun _ _ e => e).trans (Fm.of (X := fun b => b = n) ((Below.refl _ _).drew)) fun _ _ e => e
              have hbz : wz.heap[n]? = some (.cells #[.int .u64 ((D).1.toNat : Int), .int .u64 ((D).2.1.toNat : Int), .int .u64 ((D).2.2.1.toNat : Int), .int .u64 ((D).2.2.2.toNat : Int)] 24) := by rw [← HWZ.out]; exact (Below.heap_alloc _ _ _ (Nat.lt_of_lt_of_le hnl (put4_fm W9 n _ _ _ _).size)).trans (put4_at HK9.out.bn _ _ _ _)
              have HSz : Hid (St W9.heap.size 6 j wz) := by
                show St _ _ _ _
                rw [← HWZ.out]; exact put4_st W9 n _ _ _ _ 6 j
              have HGz : Hid (Fm (fun b => b = g) w wz) := HK9.out.gr.trans hfz fun q hq e => by omega
              have HPz : Hid (Pq g s k wz) := HK9.out.pt.any.keep hfz (by omega)
              have HSL : Hid (w.heap.size ≤ W9.heap.size) := HK9.out.gr.size
              obtain ⟨⟨v0, v1, v2, v3⟩, -⟩ := block4k hbz
              clear hfz hbz x0 x1 x2 x3 xe0 xe1 xe2 xe3 ye0 ye1 ye2 ye3 xf0 xf1 xf2 xf3 xef0 xef1 xef2 xef3 y0 y1 y2 y3 heq
              go_wp2_with fail
              refine bodyPost_ret (v := .tuple #[.agg #[.int .u64 ((D).1.toNat : Int), .int .u64 ((D).2.1.toNat : Int), .int .u64 ((D).2.2.1.toNat : Int), .int .u64 ((D).2.2.2.toNat : Int)], .pointer (some ⟨W9.heap.size, 0, none⟩)]) (by simp [results, Try.results77, go_sem, v0, v1, v2, v3]) rfl ⟨D, _, rfl, HGz.out, ?_⟩
              rw [HF.out]
              exact Or.inr ⟨by simp, _, rfl, HSz.out, HSL.out, HPz.out⟩
          · have hDb : decide (D = Cls.empty) = false := by simp [hD]
            rw [hDb] at heq
            have hjl : j < s.size := bt_is hb93 (by decide)
            have HF : Hid (rr = (3, D, j + 1, 0)) := by
              show _ = _
              rw [HSE.out, HRE.out]
              unfold setE
              simp only [ne_eq, not_true_eq_false, if_false]
              rw [HDD.out, if_neg hD]
            clear hDb hD
            have c1 := HK9.out.pt.cells.1.2.1
            have f1 := HK9.out.pt.cells.2.2.1
            obtain ⟨W10, HW10⟩ : ∃ W10, Hid (W9.setCell ⟨g, 1, none⟩ (.int .i64 ((j : Int) + 1)) = W10) := ⟨_, (rfl : _ = _)⟩
            have hf10 : Fm (fun b => b = g) W9 W10 := by rw [← HW10.out]; exact Fm.set _ rfl
            have HKt : Hid (KL g s k w n m rb (j + 1) (rowf c) true W10) := HK9.out.fm hf10 hlt hnw hmw hrw (by rw [← HW10.out]; exact pt_step HK9.out.pt)
            have hbd10 : W10.heap[md]? = some (.cells #[.int .u64 ((D).1.toNat : Int), .int .u64 ((D).2.1.toNat : Int), .int .u64 ((D).2.2.1.toNat : Int), .int .u64 ((D).2.2.2.toNat : Int)] 24) := (hf10.block md (in_heap hbd) (by omega)).trans hbd
            go_upto_region 26 with fail
            rw [HW10.out]
            clear c1 f1 y0 y1 y2 y3 hf10 HW10 HK9 heq hbd
            obtain ⟨⟨y0, y1, y2, y3⟩, -⟩ := block4k hbd10
            obtain ⟨⟨x0, x1, x2, x3⟩, xf0, xf1, xf2, xf3⟩ := block4k HKt.out.bn
            obtain ⟨wz, HWZ⟩ : ∃ wz, Hid (((((W10.setCell ⟨n, 0, none⟩ (.int .u64 ((D).1.toNat : Int))).setCell ⟨n, 1, none⟩ (.int .u64 ((D).2.1.toNat : Int))).setCell ⟨n, 2, none⟩ (.int .u64 ((D).2.2.1.toNat : Int))).setCell ⟨n, 3, none⟩ (.int .u64 ((D).2.2.2.toNat : Int))) = wz) := ⟨_, (rfl : _ = _)⟩
            have hfz : Fm (fun b => b = n) W10 wz := by rw [← HWZ.out]; exact put4_fm _ _ _ _ _ _
            have hbz : wz.heap[n]? = some (.cells #[.int .u64 ((D).1.toNat : Int), .int .u64 ((D).2.1.toNat : Int), .int .u64 ((D).2.2.1.toNat : Int), .int .u64 ((D).2.2.2.toNat : Int)] 24) := by rw [← HWZ.out]; exact put4_at HKt.out.bn _ _ _ _
            have HGz : Hid (Fm (fun b => b = g) w wz) := HKt.out.gr.trans hfz fun q hq e => by omega
            have HPz : Hid (Pt g s (j + 1) k wz) := HKt.out.pt.other hfz (by omega)
            obtain ⟨⟨v0, v1, v2, v3⟩, -⟩ := block4k hbz
            clear hfz hbz hbd10
            go_wp2_with fail
            rw [HWZ.out]
            refine bodyPost_ret (v := .tuple #[.agg #[.int .u64 ((D).1.toNat : Int), .int .u64 ((D).2.1.toNat : Int), .int .u64 ((D).2.2.1.toNat : Int), .int .u64 ((D).2.2.2.toNat : Int)], .pointer none]) (by simp [results, Try.results77, go_sem, v0, v1, v2, v3]) rfl ⟨D, none, rfl, HGz.out, ?_⟩
            rw [HF.out]
            exact Or.inl ⟨rfl, rfl, rfl, rfl, HPz.out⟩
        · have hcb : ((ct : Int) == 0) = false := by simp; omega
          go_wp2_with fail
          refine HWH.out.mono ?_
          rintro _ wh ⟨rfl, hbh⟩
          have HKh : Hid (KL g s k w n m rb j (rowf c) true wh) := HKp.out.below hbh
          obtain ⟨md, HMD⟩ : ∃ md, Hid (wh.heap.size = md) := ⟨_, (rfl : wh.heap.size = wh.heap.size)⟩
          obtain ⟨W9, HW9⟩ : ∃ W9, Hid (wh.alloc (.cells #[.int .u64 ((D).1.toNat : Int), .int .u64 ((D).2.1.toNat : Int), .int .u64 ((D).2.2.1.toNat : Int), .int .u64 ((D).2.2.2.toNat : Int)] 24) = W9) := ⟨_, (rfl : _ = _)⟩
          have hB9 : Below wh.heap.size wh W9 := HW9.out ▸ bal_ _ _
          have HK9 : Hid (KL g s k w n m rb j (rowf c) true W9) := HKh.out.below hB9
          have hmdw : w.heap.size ≤ md := by rw [← HMD.out]; exact HKh.out.gr.size
          have hbd : W9.heap[md]? = some (.cells #[.int .u64 ((D).1.toNat : Int), .int .u64 ((D).2.1.toNat : Int), .int .u64 ((D).2.2.1.toNat : Int), .int .u64 ((D).2.2.2.toNat : Int)] 24) := by rw [← HMD.out, ← HW9.out]; exact block_new wh _
          have heq : ∀ w, (binOp .eql 24 (.agg #[.int .u64 ((D).1.toNat : Int), .int .u64 ((D).2.1.toNat : Int), .int .u64 ((D).2.2.1.toNat : Int), .int .u64 ((D).2.2.2.toNat : Int)]) (.agg #[.int .u64 0, .int .u64 0, .int .u64 0, .int .u64 0])).run Try.prog w = .ok (.bool (decide (D = Cls.empty))) w := fun w => eql24 D Cls.empty w
          have y0 : W9.cell? ⟨md, 0, none⟩ = some (.int .u64 ((D).1.toNat : Int)) := by simp [World.cell?, hbd]
          have y1 : W9.cell? ⟨md, 1, none⟩ = some (.int .u64 ((D).2.1.toNat : Int)) := by simp [World.cell?, hbd]
          have y2 : W9.cell? ⟨md, 2, none⟩ = some (.int .u64 ((D).2.2.1.toNat : Int)) := by simp [World.cell?, hbd]
          have y3 : W9.cell? ⟨md, 3, none⟩ = some (.int .u64 ((D).2.2.2.toNat : Int)) := by simp [World.cell?, hbd]
          go_upto_region 23 with fail
          rw [HMD.out, HW9.out]
          clear hbh HKh hB9 HMD HW9 HWH hmf HKp
          by_cases hD : D = Cls.empty
          · have hDb : decide (D = Cls.empty) = true := by simp [hD]
            rw [hDb] at heq
            have HF : Hid (rr = (0, Cls.empty, j, 6)) := by
              show _ = _
              rw [HSE.out, HRE.out]
              unfold setE
              simp only [ne_eq, not_true_eq_false, if_false]
              rw [HDD.out, if_pos hD]
              rfl
            clear hDb hD
            have hnl := in_heap HK9.out.bn
            have hml := in_heap hbd
            have hbnE : (W9.alloc (.cells #[.int .i64 6, .int .i64 (j : Int)] 62)).heap[n]? = some (.cells #[.int .u64 0, .int .u64 0, .int .u64 0, .int .u64 0] 24) := (Below.heap_alloc _ _ _ hnl).trans HK9.out.bn
            have hbdE : (W9.alloc (.cells #[.int .i64 6, .int .i64 (j : Int)] 62)).heap[md]? = some (.cells #[.int .u64 ((D).1.toNat : Int), .int .u64 ((D).2.1.toNat : Int), .int .u64 ((D).2.2.1.toNat : Int), .int .u64 ((D).2.2.2.toNat : Int)] 24) := (Below.heap_alloc _ _ _ hml).trans hbd
            obtain ⟨⟨x0, x1, x2, x3⟩, xf0, xf1, xf2, xf3⟩ := block4k HK9.out.bn
            obtain ⟨⟨xe0, xe1, xe2, xe3⟩, xef0, xef1, xef2, xef3⟩ := block4k hbnE
            obtain ⟨⟨ye0, ye1, ye2, ye3⟩, -⟩ := block4k hbdE
            have HPS : Hid (Pt g s j k (put4 W9 n (.int .u64 ((D).1.toNat : Int)) (.int .u64 ((D).2.1.toNat : Int)) (.int .u64 ((D).2.2.1.toNat : Int)) (.int .u64 ((D).2.2.2.toNat : Int)))) := HK9.out.pt.other (put4_fm _ _ _ _ _ _) (by omega)
            clear hbnE hbdE
            go_upto_region 24 with fail
            go_region_with ((go_at_call 29; refine (wrong_any g s j k _ (by first | exact HK9.out.pt | exact HPS.out)).mono ?_; rintro _ wx ⟨rfl, hwx⟩; subst hwx))
            all_goals
              obtain ⟨wz, HWZ⟩ : ∃ wz, Hid ((((((W9.setCell ⟨n, 0, none⟩ (.int .u64 ((D).1.toNat : Int))).setCell ⟨n, 1, none⟩ (.int .u64 ((D).2.1.toNat : Int))).setCell ⟨n, 2, none⟩ (.int .u64 ((D).2.2.1.toNat : Int))).setCell ⟨n, 3, none⟩ (.int .u64 ((D).2.2.2.toNat : Int))).alloc (.cells #[.int .i64 6, .int .i64 (j : Int)] 62)).drew = wz) := ⟨_, (rfl : _ = _)⟩
              rw [HWZ.out]
              have hfz : Fm (fun b => b = n) W9 wz := by rw [← HWZ.out]; exact ((put4_fm _ n _ _ _ _).trans (Fm.of (X := fun b => b = n) (bal_ _ _)) fun _ _ e => e).trans (Fm.of (X := fun b => b = n) ((Below.refl _ _).drew)) fun _ _ e => e
              have hbz : wz.heap[n]? = some (.cells #[.int .u64 ((D).1.toNat : Int), .int .u64 ((D).2.1.toNat : Int), .int .u64 ((D).2.2.1.toNat : Int), .int .u64 ((D).2.2.2.toNat : Int)] 24) := by rw [← HWZ.out]; exact (Below.heap_alloc _ _ _ (Nat.lt_of_lt_of_le hnl (put4_fm W9 n _ _ _ _).size)).trans (put4_at HK9.out.bn _ _ _ _)
              have HSz : Hid (St W9.heap.size 6 j wz) := by
                show St _ _ _ _
                rw [← HWZ.out]; exact put4_st W9 n _ _ _ _ 6 j
              have HGz : Hid (Fm (fun b => b = g) w wz) := HK9.out.gr.trans hfz fun q hq e => by omega
              have HPz : Hid (Pq g s k wz) := HK9.out.pt.any.keep hfz (by omega)
              have HSL : Hid (w.heap.size ≤ W9.heap.size) := HK9.out.gr.size
              obtain ⟨⟨v0, v1, v2, v3⟩, -⟩ := block4k hbz
              clear hfz hbz x0 x1 x2 x3 xe0 xe1 xe2 xe3 ye0 ye1 ye2 ye3 xf0 xf1 xf2 xf3 xef0 xef1 xef2 xef3 y0 y1 y2 y3 heq
              go_wp2_with fail
              refine bodyPost_ret (v := .tuple #[.agg #[.int .u64 ((D).1.toNat : Int), .int .u64 ((D).2.1.toNat : Int), .int .u64 ((D).2.2.1.toNat : Int), .int .u64 ((D).2.2.2.toNat : Int)], .pointer (some ⟨W9.heap.size, 0, none⟩)]) (by simp [results, Try.results77, go_sem, v0, v1, v2, v3]) rfl ⟨D, _, rfl, HGz.out, ?_⟩
              rw [HF.out]
              exact Or.inr ⟨by simp, _, rfl, HSz.out, HSL.out, HPz.out⟩
          · have hDb : decide (D = Cls.empty) = false := by simp [hD]
            rw [hDb] at heq
            have hjl : j < s.size := bt_is hb93 (by decide)
            have HF : Hid (rr = (3, D, j + 1, 0)) := by
              show _ = _
              rw [HSE.out, HRE.out]
              unfold setE
              simp only [ne_eq, not_true_eq_false, if_false]
              rw [HDD.out, if_neg hD]
            clear hDb hD
            have c1 := HK9.out.pt.cells.1.2.1
            have f1 := HK9.out.pt.cells.2.2.1
            obtain ⟨W10, HW10⟩ : ∃ W10, Hid (W9.setCell ⟨g, 1, none⟩ (.int .i64 ((j : Int) + 1)) = W10) := ⟨_, (rfl : _ = _)⟩
            have hf10 : Fm (fun b => b = g) W9 W10 := by rw [← HW10.out]; exact Fm.set _ rfl
            have HKt : Hid (KL g s k w n m rb (j + 1) (rowf c) true W10) := HK9.out.fm hf10 hlt hnw hmw hrw (by rw [← HW10.out]; exact pt_step HK9.out.pt)
            have hbd10 : W10.heap[md]? = some (.cells #[.int .u64 ((D).1.toNat : Int), .int .u64 ((D).2.1.toNat : Int), .int .u64 ((D).2.2.1.toNat : Int), .int .u64 ((D).2.2.2.toNat : Int)] 24) := (hf10.block md (in_heap hbd) (by omega)).trans hbd
            go_upto_region 26 with fail
            rw [HW10.out]
            clear c1 f1 y0 y1 y2 y3 hf10 HW10 HK9 heq hbd
            obtain ⟨⟨y0, y1, y2, y3⟩, -⟩ := block4k hbd10
            obtain ⟨⟨x0, x1, x2, x3⟩, xf0, xf1, xf2, xf3⟩ := block4k HKt.out.bn
            obtain ⟨wz, HWZ⟩ : ∃ wz, Hid (((((W10.setCell ⟨n, 0, none⟩ (.int .u64 ((D).1.toNat : Int))).setCell ⟨n, 1, none⟩ (.int .u64 ((D).2.1.toNat : Int))).setCell ⟨n, 2, none⟩ (.int .u64 ((D).2.2.1.toNat : Int))).setCell ⟨n, 3, none⟩ (.int .u64 ((D).2.2.2.toNat : Int))) = wz) := ⟨_, (rfl : _ = _)⟩
            have hfz : Fm (fun b => b = n) W10 wz := by rw [← HWZ.out]; exact put4_fm _ _ _ _ _ _
            have hbz : wz.heap[n]? = some (.cells #[.int .u64 ((D).1.toNat : Int), .int .u64 ((D).2.1.toNat : Int), .int .u64 ((D).2.2.1.toNat : Int), .int .u64 ((D).2.2.2.toNat : Int)] 24) := by rw [← HWZ.out]; exact put4_at HKt.out.bn _ _ _ _
            have HGz : Hid (Fm (fun b => b = g) w wz) := HKt.out.gr.trans hfz fun q hq e => by omega
            have HPz : Hid (Pt g s (j + 1) k wz) := HKt.out.pt.other hfz (by omega)
            obtain ⟨⟨v0, v1, v2, v3⟩, -⟩ := block4k hbz
            clear hfz hbz hbd10
            go_wp2_with fail
            rw [HWZ.out]
            refine bodyPost_ret (v := .tuple #[.agg #[.int .u64 ((D).1.toNat : Int), .int .u64 ((D).2.1.toNat : Int), .int .u64 ((D).2.2.1.toNat : Int), .int .u64 ((D).2.2.2.toNat : Int)], .pointer none]) (by simp [results, Try.results77, go_sem, v0, v1, v2, v3]) rfl ⟨D, none, rfl, HGz.out, ?_⟩
            rw [HF.out]
            exact Or.inl ⟨rfl, rfl, rfl, rfl, HPz.out⟩
      · have e93b : (p0 != 93) = true := by simpa using e93
        have HI2 : Hid (R0 = if (itemR s j).2.2 ≠ 0 then (c, (itemR s j).2.1, (itemR s j).2.2) else itemsR s s.size (itemR s j).2.1 (join c (itemR s j).1)) := by show _ = _; rw [← HIT.out]; conv => lhs; unfold itemsR; rw [if_neg (fun e => e93 (h93.2 e))]
        clear h93 e93 HP0 HIT HCT
        have hch := rchar_any s hs g j k wp HKp.out.pt
        have hrd := charR_rd s j hj
        obtain ⟨r, HR⟩ : ∃ r, Hid (charR s j = r) := ⟨_, (rfl : charR s j = charR s j)⟩
        rw [HR.out] at hch hrd
        go_wp2_with fail
        refine hch.mono ?_
        rintro e9 wc ⟨hfc, hcase⟩
        have HIR : Hid (itemR s j = if r.2.2 ≠ 0 ∨ bt s r.2.1 ≠ 45 then (range r.1 r.1, r.2.1, r.2.2) else if (charR s (r.2.1 + 1)).2.2 = 0 ∧ (charR s (r.2.1 + 1)).1 < r.1 then (range r.1 (charR s (r.2.1 + 1)).1, r.2.1 + 1, 6) else (range r.1 (charR s (r.2.1 + 1)).1, (charR s (r.2.1 + 1)).2.1, (charR s (r.2.1 + 1)).2.2)) := by show _ = _; unfold itemR; rw [HR.out]
        rcases hcase with ⟨he, rfl, hpt⟩ | ⟨he, st2, rfl, hst2, hsl, hpq⟩
        · have HKc : Hid (KL g s k w n m rb r.2.1 (rowf c) true wc) := HKp.out.fm hfc hlt hnw hmw hrw hpt
          have hr1 := hrd.v
          have hr2 := hrd.hi
          have hr3 := hrd.up he
          have HE0 : Hid (r.2.2 = 0) := he
          obtain ⟨lo, HLO⟩ : ∃ lo, Hid (r.1 = lo) := ⟨_, (rfl : r.1 = r.1)⟩
          rw [HLO.out] at hr1
          clear hpt hfc hch hrd he HKp HR
          obtain ⟨p1, HP1⟩ : ∃ p1, Hid (pk s r.2.1 = p1) := ⟨_, (rfl : pk s r.2.1 = pk s r.2.1)⟩
          have h45 := pk_is s r.2.1 45 (by omega)
          rw [HP1.out] at h45
          rw [HLO.out]
          go_wp2_with fail
          refine (peek_any g s r.2.1 k _ HKc.out.pt).mono ?_
          rintro _ wq ⟨rfl, hb⟩
          have HKq : Hid (KL g s k w n m rb r.2.1 (rowf c) true wq) := HKc.out.below hb
          clear hb HKc
          rw [HP1.out]
          by_cases e45 : p1 = 45
          · have hb45 := h45.1 e45
            have hil : r.2.1 < s.size := bt_is hb45 (by decide)
            have HIR2 : Hid (itemR s j = if (charR s (r.2.1 + 1)).2.2 = 0 ∧ (charR s (r.2.1 + 1)).1 < lo then (range lo (charR s (r.2.1 + 1)).1, r.2.1 + 1, 6) else (range lo (charR s (r.2.1 + 1)).1, (charR s (r.2.1 + 1)).2.1, (charR s (r.2.1 + 1)).2.2)) := by
              show _ = _
              rw [HIR.out, if_neg (by rintro (h | h); exact h HE0.out; exact h hb45), HLO.out]
            subst e45
            have c1 := HKq.out.pt.cells.1.2.1
            have f1 := HKq.out.pt.cells.2.2.1
            obtain ⟨wv, HWV⟩ : ∃ wv, Hid (wq.setCell ⟨g, 1, none⟩ (.int .i64 ((r.2.1 : Int) + 1)) = wv) := ⟨_, (rfl : _ = _)⟩
            have hfv : Fm (fun b => b = g) wq wv := by rw [← HWV.out]; exact Fm.set _ rfl
            have HKv : Hid (KL g s k w n m rb (r.2.1 + 1) (rowf c) true wv) := HKq.out.fm hfv hlt hnw hmw hrw (by rw [← HWV.out]; exact pt_step HKq.out.pt)
            go_upto_region 12 with fail
            rw [HWV.out]
            clear c1 f1 HWV hfv HKq HIR h45 hb45 HP1 HLO HE0
            have c1 : wv.cell? ⟨g, 1, none⟩ = some (.int .i64 ((r.2.1 : Int) + 1)) := by
              have := HKv.out.pt.cells.1.2.1
              rw [show (((r.2.1 + 1 : Nat)) : Int) = (r.2.1 : Int) + 1 by omega] at this
              exact this
            have hch2 := rchar_any s hs g (r.2.1 + 1) k wv HKv.out.pt
            have hrd2 := charR_rd s (r.2.1 + 1) (by omega)
            obtain ⟨r2, HR2⟩ : ∃ r2, Hid (charR s (r.2.1 + 1) = r2) := ⟨_, (rfl : charR s (r.2.1 + 1) = charR s (r.2.1 + 1))⟩
            rw [HR2.out] at hch2 hrd2 HIR2
            go_wp2_with fail
            refine hch2.mono ?_
            rintro e8 w8 ⟨hf8, hcase⟩
            rcases hcase with ⟨he, rfl, hpt⟩ | ⟨he, st2, rfl, hst2, hsl, hpq⟩
            · have HK8 : Hid (KL g s k w n m rb r2.2.1 (rowf c) true w8) := HKv.out.fm hf8 hlt hnw hmw hrw hpt
              have hq1 := hrd2.v
              have hq2 := hrd2.hi
              have hq3 := hrd2.up he
              have HE2 : Hid (r2.2.2 = 0) := he
              obtain ⟨hi, HHI⟩ : ∃ hi, Hid (r2.1 = hi) := ⟨_, (rfl : r2.1 = r2.1)⟩
              rw [HHI.out] at hq1 HIR2
              rw [HHI.out]
              clear hpt hf8 hch2 hrd2 he HKv HR2 c1
              by_cases hlh : hi < lo
              · have hd : decide ((hi : Int) < (lo : Int)) = true := by simp; omega
                have HI4 : Hid (R0 = (c, r.2.1 + 1, 6)) := by
                  show _ = _
                  have hx : itemR s j = (range lo hi, r.2.1 + 1, 6) := by rw [HIR2.out, if_pos ⟨HE2.out, hlh⟩]
                  rw [HI2.out, hx, if_pos (by simp)]
                obtain ⟨st2, HST⟩ : ∃ st2, Hid (w8.heap.size = st2) := ⟨_, (rfl : w8.heap.size = w8.heap.size)⟩
                obtain ⟨w7, HW7⟩ : ∃ w7, Hid (w8.alloc (.cells #[.int .i64 6, .int .i64 ((r.2.1 : Int) + 1)] 62) = w7) := ⟨_, (rfl : _ = _)⟩
                have hB7 : Below w8.heap.size w8 w7 := HW7.out ▸ bal_ _ _
                have hst2 : St st2 6 (r.2.1 + 1) w7 := by
                  have := St.new w8 6 (r.2.1 + 1)
                  rw [show (((r.2.1 + 1 : Nat)) : Int) = (r.2.1 : Int) + 1 by omega] at this
                  rw [← HST.out, ← HW7.out]; exact this
                have HK7 : Hid (KL g s k w n m rb r2.2.1 (rowf c) true w7) := HK8.out.below hB7
                have hsl : w.heap.size ≤ st2 := by rw [← HST.out]; exact HK8.out.gr.size
                have he : (6 : Nat) ≠ 0 := by omega
                have hbn := HK7.out.bn
                have hgr := HK7.out.gr
                have hpq : Pq g s k w7 := HK7.out.pt.any
                go_upto_region 16 with fail
                rw [HST.out, HW7.out]
                clear hB7 HST HW7 HK8 HI2 HIR2 HHI HE2 hd hlh
                obtain ⟨⟨x0, x1, x2, x3⟩, xf0, xf1, xf2, xf3⟩ := block4k hbn
                obtain ⟨wz, HWZ⟩ : ∃ wz, Hid (((((w7.setCell ⟨n, 0, none⟩ (.int .u64 0)).setCell ⟨n, 1, none⟩ (.int .u64 0)).setCell ⟨n, 2, none⟩ (.int .u64 0)).setCell ⟨n, 3, none⟩ (.int .u64 0)) = wz) := ⟨_, (rfl : _ = _)⟩
                have hfz : Fm (fun b => b = n) w7 wz := by rw [← HWZ.out]; exact put4_fm _ _ _ _ _ _
                have hbz : wz.heap[n]? = some (.cells #[.int .u64 0, .int .u64 0, .int .u64 0, .int .u64 0] 24) := by rw [← HWZ.out]; exact put4_at hbn _ _ _ _
                have HGz : Hid (Fm (fun b => b = g) w wz) := hgr.trans hfz fun q hq e => by omega
                have HPz : Hid (Pq g s k wz) := Pq.keep (show Pq g s k _ from hpq) hfz (by omega)
                have HSz : Hid (St st2 (6) (r.2.1 + 1) wz) := hst2.keep hfz (st4_ne hst2 hbn)
                have HHE : Hid (6 ≠ 0) := he
                have HSL : Hid (w.heap.size ≤ st2) := hsl
                have HF : Hid (rr = (0, Cls.empty, r.2.1 + 1, 6)) := by
                  show _ = _
                  rw [HSE.out, HI4.out]
                  unfold setE
                  rw [if_pos he]
                obtain ⟨⟨v0, v1, v2, v3⟩, -⟩ := block4k hbz
                clear hfz hbz hgr hpq hst2 hbn hsl he
                go_wp2_with fail
                rw [HWZ.out]
                refine bodyPost_ret (v := .tuple #[.agg #[.int .u64 0, .int .u64 0, .int .u64 0, .int .u64 0], .pointer (some ⟨st2, 0, none⟩)]) (by simp [results, Try.results77, go_sem, v0, v1, v2, v3]) rfl ⟨Cls.empty, _, rfl, HGz.out, ?_⟩
                rw [HF.out]
                exact Or.inr ⟨HHE.out, _, rfl, HSz.out, HSL.out, HPz.out⟩
              · have hd : decide ((hi : Int) < (lo : Int)) = false := by simp; omega
                have HI4 : Hid (R0 = itemsR s s.size r2.2.1 (join c (range lo hi))) := by
                  show _ = _
                  have hx : itemR s j = (range lo hi, r2.2.1, r2.2.2) := by rw [HIR2.out, if_neg (fun h => hlh h.2)]
                  rw [HI2.out, hx, if_neg (by simp [HE2.out])]
                have HKx : Hid (KL g s k w n m rb r2.2.1 (rowf c) true w8) := HK8.out
                clear HK8 HI2 HIR2 HHI HE2
                have HKi : Hid (KL g s k w n m rb (r2.2.1) (rowg c lo lo) true w8) := HKx.out.again fun x _ => rowg_start c lo x
                obtain ⟨wo, rfl⟩ : ∃ wo, wo = wr := ⟨_, rfl⟩
                go_upto_region 19 with fail
                go_loopw [11] (fun vb wi => ∃ b : Nat, vb = .int .i64 (b : Int) ∧ lo ≤ b ∧ b ≤ hi + 1 ∧ Hid (KL g s k w n m rb (r2.2.1) (rowg c lo b) true wi)) (fun vb _ => hi + 1 - (intOf vb).toNat)
                case atStart => exact ⟨lo, rfl, Nat.le_refl _, by omega, HKi.out⟩
                case round =>
                  clear HKi HKx
                  obtain ⟨b, rfl, hb1, hb2, HI⟩ := hrel
                  by_cases hbh : b ≤ hi
                  · have hd : decide ((b : Int) ≤ (hi : Int)) = true := by simp; omega
                    have hbb : b < 256 := by omega
                    have cx := HI.out.row.cell hbb
                    have fx := HI.out.row.frozen b
                    obtain ⟨wn, HWN⟩ : ∃ wn, Hid (wr.setCell ⟨rb, b, none⟩ (.int .i64 1) = wn) := ⟨_, (rfl : _ = _)⟩
                    have HKn : Hid (KL g s k w n m rb (r2.2.1) (rowg c lo (b + 1)) true wn) := HI.out.put hb1 hlt hrw hnr hmr HWN.out
                    go_wp2_with fail
                    rw [HWN.out]
                    go_roundw
                    case rel => exact ⟨b + 1, by go_num, by omega, by omega, HKn.out⟩
                    case measure => simp [intOf]; omega
                  · have hd : decide ((b : Int) ≤ (hi : Int)) = false := by simp; omega
                    have hbe : b = hi + 1 := by omega
                    have HKe : Hid (KL g s k w n m rb (r2.2.1) (rowf (join c (range lo hi))) true wr) := by
                      have h := HI.out
                      rw [hbe] at h
                      exact h.again fun x hx => rowg_end c lo hi x hx
                    have HPE : Hid (posOf g wr = r2.2.1) := HKe.out.pt.pos
                    clear hbe HI
                    go_wp2_with fail
                    refine ⟨⟨ct + 1, r2.2.1, join c (range lo hi), by go_num, by omega, by omega, ⟨fun h => absurd h (by omega), HKe.out, ?_⟩⟩, ?_⟩
                    · rw [HI4.out]
                      exact (itemsR_more s s.size (s.size + 1) _ _ (by omega) (by omega) (by omega)).symm
                    · refine Nat.lt_of_le_of_lt (Nat.le_of_eq (congrArg (s.size - ·) HPE.out)) ?_
                      rw [HPOS.out]; omega
            · have hbn := (hf8.block n (in_heap HKv.out.bn) (by omega)).trans HKv.out.bn
              have hgr := HKv.out.gr.trans hf8 fun _ _ e => e
              have hsl := Nat.le_trans HKv.out.gr.size hsl
              have HI4 : Hid (R0 = (c, r2.2.1, r2.2.2)) := by
                show _ = _
                have hx : itemR s j = (range lo r2.1, r2.2.1, r2.2.2) := by rw [HIR2.out, if_neg (fun h => he h.1)]
                rw [HI2.out, hx, if_pos he]
              clear HI2 HIR2 hf8 hch2 hrd2 HKv HR2 c1
              obtain ⟨⟨x0, x1, x2, x3⟩, xf0, xf1, xf2, xf3⟩ := block4k hbn
              obtain ⟨wz, HWZ⟩ : ∃ wz, Hid (((((w8.setCell ⟨n, 0, none⟩ (.int .u64 0)).setCell ⟨n, 1, none⟩ (.int .u64 0)).setCell ⟨n, 2, none⟩ (.int .u64 0)).setCell ⟨n, 3, none⟩ (.int .u64 0)) = wz) := ⟨_, (rfl : _ = _)⟩
              have hfz : Fm (fun b => b = n) w8 wz := by rw [← HWZ.out]; exact put4_fm _ _ _ _ _ _
              have hbz : wz.heap[n]? = some (.cells #[.int .u64 0, .int .u64 0, .int .u64 0, .int .u64 0] 24) := by rw [← HWZ.out]; exact put4_at hbn _ _ _ _
              have HGz : Hid (Fm (fun b => b = g) w wz) := hgr.trans hfz fun q hq e => by omega
              have HPz : Hid (Pq g s k wz) := Pq.keep (show Pq g s k _ from hpq) hfz (by omega)
              have HSz : Hid (St st2 (r2.2.2) (r2.2.1) wz) := hst2.keep hfz (st4_ne hst2 hbn)
              have HHE : Hid (r2.2.2 ≠ 0) := he
              have HSL : Hid (w.heap.size ≤ st2) := hsl
              have HF : Hid (rr = (0, Cls.empty, r2.2.1, r2.2.2)) := by
                show _ = _
                rw [HSE.out, HI4.out]
                unfold setE
                rw [if_pos he]
              obtain ⟨⟨v0, v1, v2, v3⟩, -⟩ := block4k hbz
              clear hfz hbz hgr hpq hst2 hbn hsl he
              go_wp2_with fail
              rw [HWZ.out]
              refine bodyPost_ret (v := .tuple #[.agg #[.int .u64 0, .int .u64 0, .int .u64 0, .int .u64 0], .pointer (some ⟨st2, 0, none⟩)]) (by simp [results, Try.results77, go_sem, v0, v1, v2, v3]) rfl ⟨Cls.empty, _, rfl, HGz.out, ?_⟩
              rw [HF.out]
              exact Or.inr ⟨HHE.out, _, rfl, HSz.out, HSL.out, HPz.out⟩
          · have e45b : (p1 == 45) = false := by simpa using e45
            have hn45 : bt s r.2.1 ≠ 45 := fun e => e45 (h45.2 e)
            have HI4 : Hid (R0 = itemsR s s.size r.2.1 (join c (range lo lo))) := by
              show _ = _
              rw [HI2.out, HIR.out, if_pos (Or.inr hn45), HLO.out]
              simp only [HE0.out]
              simp
            have HKx : Hid (KL g s k w n m rb r.2.1 (rowf c) true wq) := HKq.out
            clear HKq HI2 HIR h45 hn45 e45 HP1 HLO HE0
            have HKi : Hid (KL g s k w n m rb (r.2.1) (rowg c lo lo) true wq) := HKx.out.again fun x _ => rowg_start c lo x
            obtain ⟨wo, rfl⟩ : ∃ wo, wo = wr := ⟨_, rfl⟩
            go_upto_region 19 with fail
            go_loopw [11] (fun vb wi => ∃ b : Nat, vb = .int .i64 (b : Int) ∧ lo ≤ b ∧ b ≤ lo + 1 ∧ Hid (KL g s k w n m rb (r.2.1) (rowg c lo b) true wi)) (fun vb _ => lo + 1 - (intOf vb).toNat)
            case atStart => exact ⟨lo, rfl, Nat.le_refl _, by omega, HKi.out⟩
            case round =>
              clear HKi HKx
              obtain ⟨b, rfl, hb1, hb2, HI⟩ := hrel
              by_cases hbh : b ≤ lo
              · have hd : decide ((b : Int) ≤ (lo : Int)) = true := by simp; omega
                have hbb : b < 256 := by omega
                have cx := HI.out.row.cell hbb
                have fx := HI.out.row.frozen b
                obtain ⟨wn, HWN⟩ : ∃ wn, Hid (wr.setCell ⟨rb, b, none⟩ (.int .i64 1) = wn) := ⟨_, (rfl : _ = _)⟩
                have HKn : Hid (KL g s k w n m rb (r.2.1) (rowg c lo (b + 1)) true wn) := HI.out.put hb1 hlt hrw hnr hmr HWN.out
                go_wp2_with fail
                rw [HWN.out]
                go_roundw
                case rel => exact ⟨b + 1, by go_num, by omega, by omega, HKn.out⟩
                case measure => simp [intOf]; omega
              · have hd : decide ((b : Int) ≤ (lo : Int)) = false := by simp; omega
                have hbe : b = lo + 1 := by omega
                have HKe : Hid (KL g s k w n m rb (r.2.1) (rowf (join c (range lo lo))) true wr) := by
                  have h := HI.out
                  rw [hbe] at h
                  exact h.again fun x hx => rowg_end c lo lo x hx
                have HPE : Hid (posOf g wr = r.2.1) := HKe.out.pt.pos
                clear hbe HI
                go_wp2_with fail
                refine ⟨⟨ct + 1, r.2.1, join c (range lo lo), by go_num, by omega, by omega, ⟨fun h => absurd h (by omega), HKe.out, ?_⟩⟩, ?_⟩
                · rw [HI4.out]
                  exact (itemsR_more s s.size (s.size + 1) _ _ (by omega) (by omega) (by omega)).symm
                · refine Nat.lt_of_le_of_lt (Nat.le_of_eq (congrArg (s.size - ·) HPE.out)) ?_
                  rw [HPOS.out]; omega
        · have hbn := (hfc.block n (in_heap HKp.out.bn) (by omega)).trans HKp.out.bn
          have hgr := HKp.out.gr.trans hfc fun _ _ e => e
          have hsl := Nat.le_trans HKp.out.gr.size hsl
          have HI4 : Hid (R0 = (c, r.2.1, r.2.2)) := by
            show _ = _
            rw [HI2.out, HIR.out, if_pos (Or.inl he), if_pos he]
          clear HI2 HIR hfc hch hrd HKp HR
          obtain ⟨⟨x0, x1, x2, x3⟩, xf0, xf1, xf2, xf3⟩ := block4k hbn
          obtain ⟨wz, HWZ⟩ : ∃ wz, Hid (((((wc.setCell ⟨n, 0, none⟩ (.int .u64 0)).setCell ⟨n, 1, none⟩ (.int .u64 0)).setCell ⟨n, 2, none⟩ (.int .u64 0)).setCell ⟨n, 3, none⟩ (.int .u64 0)) = wz) := ⟨_, (rfl : _ = _)⟩
          have hfz : Fm (fun b => b = n) wc wz := by rw [← HWZ.out]; exact put4_fm _ _ _ _ _ _
          have hbz : wz.heap[n]? = some (.cells #[.int .u64 0, .int .u64 0, .int .u64 0, .int .u64 0] 24) := by rw [← HWZ.out]; exact put4_at hbn _ _ _ _
          have HGz : Hid (Fm (fun b => b = g) w wz) := hgr.trans hfz fun q hq e => by omega
          have HPz : Hid (Pq g s k wz) := Pq.keep (show Pq g s k _ from hpq) hfz (by omega)
          have HSz : Hid (St st2 (r.2.2) (r.2.1) wz) := hst2.keep hfz (st4_ne hst2 hbn)
          have HHE : Hid (r.2.2 ≠ 0) := he
          have HSL : Hid (w.heap.size ≤ st2) := hsl
          have HF : Hid (rr = (0, Cls.empty, r.2.1, r.2.2)) := by
            show _ = _
            rw [HSE.out, HI4.out]
            unfold setE
            rw [if_pos he]
          obtain ⟨⟨v0, v1, v2, v3⟩, -⟩ := block4k hbz
          clear hfz hbz hgr hpq hst2 hbn hsl he
          go_wp2_with fail
          rw [HWZ.out]
          refine bodyPost_ret (v := .tuple #[.agg #[.int .u64 0, .int .u64 0, .int .u64 0, .int .u64 0], .pointer (some ⟨st2, 0, none⟩)]) (by simp [results, Try.results77, go_sem, v0, v1, v2, v3]) rfl ⟨Cls.empty, _, rfl, HGz.out, ?_⟩
          rw [HF.out]
          exact Or.inr ⟨HHE.out, _, rfl, HSz.out, HSL.out, HPz.out⟩
  · have e94b : (p0 == 94) = false := by simpa using e94
    obtain ⟨W2, HW2⟩ : ∃ W2, Hid (w1.alloc (.cells #[.bool false] 4) = W2) := ⟨_, (rfl : _ = _)⟩
    have hB2 : Below w1.heap.size w1 W2 := HW2.out ▸ bal_ _ _
    have hbm : W2.heap[m]? = some (.cells #[.bool false] 4) := by rw [← HM.out, ← HW2.out]; exact block_new w1 _
    have hbl : W2.cell? ⟨m, 0, none⟩ = some (.bool false) := by simp [World.cell?, hbm]
    have hmw : w.heap.size ≤ m := by rw [← HM.out]; exact HB1.out.size
    have HP2 : Hid (Pt g s i k W2) := HP1.out.next hB2
    have HB2 : Hid (Below w.heap.size w W2) := HB1.out.trans (hB2.mono HB1.out.size)
    have HN2 : Hid (W2.heap[n]? = some (.cells #[.int .u64 0, .int .u64 0, .int .u64 0, .int .u64 0] 24)) := (hB2.block n (in_heap HN1.out)).trans HN1.out
    go_upto_region 2 with fail
    rw [HM.out, HW2.out]
    clear hB2 HW2 HM HP1 HB1 HN1
    obtain ⟨st, HSTT⟩ : ∃ st, Hid (i = st) := ⟨_, (rfl : i = i)⟩
    have hst : st ≤ s.size := by rw [← HSTT.out]; exact hi
    have hf3 : Fm (fun b => b = g) W2 W2 := Fm.refl _ _
    have HP3 : Hid (Pt g s st k W2) := by
      show Pt _ _ _ _ _
      rw [← HSTT.out]; exact HP2.out
    have HS93 : Hid (Ob (bt s st ≠ 93) false) := by
      show Ob _ _
      rw [← HSTT.out]; exact Or.inl hn93
    have HSE : Hid (rr = setE false (itemsR s (s.size + 1) st Cls.empty)) := by show _ = _; rw [← HRR.out, ← HSTT.out]; unfold setR; rw [if_neg (fun e => e94 (h94.2 e))]
    go_upto_region 4 with fail
    clear hbl
    obtain ⟨rb, HRB⟩ : ∃ rb, Hid (W2.heap.size = rb) := ⟨_, (rfl : W2.heap.size = W2.heap.size)⟩
    obtain ⟨W4, HW4⟩ : ∃ W4, Hid (W2.alloc (.cells zs 110) = W4) := ⟨_, (rfl : _ = _)⟩
    have hB4 : Below W2.heap.size W2 W4 := HW4.out ▸ bal_ _ _
    have hrw : w.heap.size ≤ rb := by rw [← HRB.out]; exact Nat.le_trans HB2.out.size hf3.size
    have hrow : W4.rowIs rb 110 256 (rowf Cls.empty) := by
      rw [← HRB.out, ← HW4.out, ← HZS.out]
      refine World.rowIs_alloc W2 zs 110 (rowf Cls.empty) fun x hx => ?_
      rw [HZS.out] at hx
      rw [HZZ.out x hx]; unfold rowf; rw [mem_empty]; rfl
    have HK4 : Hid (KL g s k w n m rb st (rowf Cls.empty) false W4) := by
      have hf4 : Fm (fun b => b = g) W2 W4 := hf3.trans (Fm.of (X := fun b => b = g) hB4) fun _ _ e => e
      exact ⟨(Fm.of HB2.out).trans hf4 fun _ _ e => e, (hf4.block n (in_heap HN2.out) (by omega)).trans HN2.out, (hf4.block m (in_heap hbm) (by omega)).trans hbm, hrow, HP3.out.next hB4⟩
    obtain ⟨R0, HR0⟩ : ∃ R0, Hid (itemsR s (s.size + 1) st Cls.empty = R0) := ⟨_, (rfl : _ = _)⟩
    rw [HR0.out] at HSE
    have HSOME : Hid (false = false → R0.2.2 = 0 → R0.1 ≠ Cls.empty) := fun _ h => by rw [← HR0.out] at h ⊢; exact itemsR_some s s.size st hst (Or.resolve_right HS93.out (by simp)) h
    go_upto_region 5 with fail
    rw [HRB.out, HW4.out]
    have hnr : n ≠ rb := by have := in_heap HN2.out; have := hf3.size; rw [← HRB.out]; omega
    have hmr : m ≠ rb := by have := in_heap hbm; have := hf3.size; rw [← HRB.out]; omega
    clear hB4 hf3 hrow hbm HP3 HB2 HN2 HP2 HRB HW4 HZZ HZS hz110 h94 HPK HRR HSTT
    go_upto_region 6 with fail
    go_loopw [6] (fun vv wr => ∃ (ct j : Nat) (c : Cl), vv = .int .i64 (ct : Int) ∧ j ≤ s.size ∧ ct ≤ j ∧ Hid ((ct = 0 → Ob (bt s j ≠ 93) false) ∧ KL g s k w n m rb j (rowf c) false wr ∧ itemsR s (s.size + 1) j c = R0)) (fun vv wr => s.size - posOf g wr)
    case atStart => exact ⟨0, st, Cls.empty, rfl, hst, Nat.zero_le _, fun _ => HS93.out, HK4.out, HR0.out⟩
    case round =>
      clear HK4 HR0 HS93
      obtain ⟨ct, j, c, rfl, hj, hct, HL⟩ := hrel
      have HKr : Hid (KL g s k w n m rb j (rowf c) false wr) := HL.out.2.1
      have HPOS : Hid (posOf g wr = j) := HL.out.2.1.pt.pos
      have HIT : Hid (itemsR s (s.size + 1) j c = R0) := HL.out.2.2
      have HCT : Hid (ct = 0 → Ob (bt s j ≠ 93) false) := HL.out.1
      clear HL
      obtain ⟨p0, HP0⟩ : ∃ p0, Hid (pk s j = p0) := ⟨_, (rfl : pk s j = pk s j)⟩
      have h93 := pk_is s j 93 (by omega)
      rw [HP0.out] at h93
      go_wp2_with fail
      refine (peek_any g s j k _ HKr.out.pt).mono ?_
      rintro _ wp ⟨rfl, hb⟩
      have HKp : Hid (KL g s k w n m rb j (rowf c) false wp) := HKr.out.below hb
      clear hb HKr
      rw [HP0.out]
      by_cases e93 : p0 = 93
      · have HRE : Hid (R0 = (c, j, 0)) := by show _ = _; rw [← HIT.out]; unfold itemsR; rw [if_pos (h93.1 e93)]
        have hz := HCT.out
        have hb93 := h93.1 e93
        subst e93
        obtain ⟨D, HDD⟩ : ∃ D, Hid ((if false = true then neg c else c) = D) := ⟨_, (rfl : _ = _)⟩
        have hwh := where_any 85 #[.pointer (some ⟨rb, 0, none⟩), .pointer (some ⟨m, 0, none⟩)] (fun x => (mem c x) != false) wp (enters_of Try.func85 (by kernel_rfl) rfl) fun W1 x hx hb => clos85 x hx c false rb m W1 (HKp.out.row.of_block (hb.block rb HKp.out.row.lt)) ((hb.block m (in_heap HKp.out.bm)).trans HKp.out.bm)
        rw [wher_row, HDD.out] at hwh
        have HWH : Hid (Calls Try.prog 22 #[.func (.func 85) #[] #[.pointer (some ⟨rb, 0, none⟩), .pointer (some ⟨m, 0, none⟩)]] wp fun e w' => e = .returned (.agg #[.int .u64 ((D).1.toNat : Int), .int .u64 ((D).2.1.toNat : Int), .int .u64 ((D).2.2.1.toNat : Int), .int .u64 ((D).2.2.2.toNat : Int)]) ∧ Below wp.heap.size wp w') := hwh
        have hmf : ∀ (fn : Fn) (first cap : Array Value) (w : World), (Instr.makeFunc fn first cap).run Try.prog w = .ok (.func fn first cap) w := fun _ _ _ _ => rfl
        clear hwh
        have hc0 : ct ≠ 0 := fun e => (hz e).elim (fun h => h hb93) (by simp)
        have hcb : ((ct : Int) == 0) = false := by simp; omega
        go_wp2_with fail
        refine HWH.out.mono ?_
        rintro _ wh ⟨rfl, hbh⟩
        have HKh : Hid (KL g s k w n m rb j (rowf c) false wh) := HKp.out.below hbh
        obtain ⟨md, HMD⟩ : ∃ md, Hid (wh.heap.size = md) := ⟨_, (rfl : wh.heap.size = wh.heap.size)⟩
        obtain ⟨W9, HW9⟩ : ∃ W9, Hid (wh.alloc (.cells #[.int .u64 ((D).1.toNat : Int), .int .u64 ((D).2.1.toNat : Int), .int .u64 ((D).2.2.1.toNat : Int), .int .u64 ((D).2.2.2.toNat : Int)] 24) = W9) := ⟨_, (rfl : _ = _)⟩
        have hB9 : Below wh.heap.size wh W9 := HW9.out ▸ bal_ _ _
        have HK9 : Hid (KL g s k w n m rb j (rowf c) false W9) := HKh.out.below hB9
        have hmdw : w.heap.size ≤ md := by rw [← HMD.out]; exact HKh.out.gr.size
        have hbd : W9.heap[md]? = some (.cells #[.int .u64 ((D).1.toNat : Int), .int .u64 ((D).2.1.toNat : Int), .int .u64 ((D).2.2.1.toNat : Int), .int .u64 ((D).2.2.2.toNat : Int)] 24) := by rw [← HMD.out, ← HW9.out]; exact block_new wh _
        have heq : ∀ w, (binOp .eql 24 (.agg #[.int .u64 ((D).1.toNat : Int), .int .u64 ((D).2.1.toNat : Int), .int .u64 ((D).2.2.1.toNat : Int), .int .u64 ((D).2.2.2.toNat : Int)]) (.agg #[.int .u64 0, .int .u64 0, .int .u64 0, .int .u64 0])).run Try.prog w = .ok (.bool (decide (D = Cls.empty))) w := fun w => eql24 D Cls.empty w
        have y0 : W9.cell? ⟨md, 0, none⟩ = some (.int .u64 ((D).1.toNat : Int)) := by simp [World.cell?, hbd]
        have y1 : W9.cell? ⟨md, 1, none⟩ = some (.int .u64 ((D).2.1.toNat : Int)) := by simp [World.cell?, hbd]
        have y2 : W9.cell? ⟨md, 2, none⟩ = some (.int .u64 ((D).2.2.1.toNat : Int)) := by simp [World.cell?, hbd]
        have y3 : W9.cell? ⟨md, 3, none⟩ = some (.int .u64 ((D).2.2.2.toNat : Int)) := by simp [World.cell?, hbd]
        go_upto_region 23 with fail
        rw [HMD.out, HW9.out]
        clear hbh HKh hB9 HMD HW9 HWH hmf HKp
        by_cases hD : D = Cls.empty
        · have hDb : decide (D = Cls.empty) = true := by simp [hD]
          have h1 : c = Cls.empty := by
            have h := HDD.out
            simp at h
            rw [h]; exact hD
          have h0 : R0.2.2 = 0 := by rw [HRE.out]
          have h2 : R0.1 ≠ Cls.empty := by first | exact HSOME.out rfl h0 | exact HSOME.out trivial h0 | exact HSOME.out h0
          exact absurd (by rw [HRE.out]; exact h1) h2
        · have hDb : decide (D = Cls.empty) = false := by simp [hD]
          rw [hDb] at heq
          have hjl : j < s.size := bt_is hb93 (by decide)
          have HF : Hid (rr = (3, D, j + 1, 0)) := by
            show _ = _
            rw [HSE.out, HRE.out]
            unfold setE
            simp only [ne_eq, not_true_eq_false, if_false]
            rw [HDD.out, if_neg hD]
          clear hDb hD
          have c1 := HK9.out.pt.cells.1.2.1
          have f1 := HK9.out.pt.cells.2.2.1
          obtain ⟨W10, HW10⟩ : ∃ W10, Hid (W9.setCell ⟨g, 1, none⟩ (.int .i64 ((j : Int) + 1)) = W10) := ⟨_, (rfl : _ = _)⟩
          have hf10 : Fm (fun b => b = g) W9 W10 := by rw [← HW10.out]; exact Fm.set _ rfl
          have HKt : Hid (KL g s k w n m rb (j + 1) (rowf c) false W10) := HK9.out.fm hf10 hlt hnw hmw hrw (by rw [← HW10.out]; exact pt_step HK9.out.pt)
          have hbd10 : W10.heap[md]? = some (.cells #[.int .u64 ((D).1.toNat : Int), .int .u64 ((D).2.1.toNat : Int), .int .u64 ((D).2.2.1.toNat : Int), .int .u64 ((D).2.2.2.toNat : Int)] 24) := (hf10.block md (in_heap hbd) (by omega)).trans hbd
          go_upto_region 26 with fail
          rw [HW10.out]
          clear c1 f1 y0 y1 y2 y3 hf10 HW10 HK9 heq hbd
          obtain ⟨⟨y0, y1, y2, y3⟩, -⟩ := block4k hbd10
          obtain ⟨⟨x0, x1, x2, x3⟩, xf0, xf1, xf2, xf3⟩ := block4k HKt.out.bn
          obtain ⟨wz, HWZ⟩ : ∃ wz, Hid (((((W10.setCell ⟨n, 0, none⟩ (.int .u64 ((D).1.toNat : Int))).setCell ⟨n, 1, none⟩ (.int .u64 ((D).2.1.toNat : Int))).setCell ⟨n, 2, none⟩ (.int .u64 ((D).2.2.1.toNat : Int))).setCell ⟨n, 3, none⟩ (.int .u64 ((D).2.2.2.toNat : Int))) = wz) := ⟨_, (rfl : _ = _)⟩
          have hfz : Fm (fun b => b = n) W10 wz := by rw [← HWZ.out]; exact put4_fm _ _ _ _ _ _
          have hbz : wz.heap[n]? = some (.cells #[.int .u64 ((D).1.toNat : Int), .int .u64 ((D).2.1.toNat : Int), .int .u64 ((D).2.2.1.toNat : Int), .int .u64 ((D).2.2.2.toNat : Int)] 24) := by rw [← HWZ.out]; exact put4_at HKt.out.bn _ _ _ _
          have HGz : Hid (Fm (fun b => b = g) w wz) := HKt.out.gr.trans hfz fun q hq e => by omega
          have HPz : Hid (Pt g s (j + 1) k wz) := HKt.out.pt.other hfz (by omega)
          obtain ⟨⟨v0, v1, v2, v3⟩, -⟩ := block4k hbz
          clear hfz hbz hbd10
          go_wp2_with fail
          rw [HWZ.out]
          refine bodyPost_ret (v := .tuple #[.agg #[.int .u64 ((D).1.toNat : Int), .int .u64 ((D).2.1.toNat : Int), .int .u64 ((D).2.2.1.toNat : Int), .int .u64 ((D).2.2.2.toNat : Int)], .pointer none]) (by simp [results, Try.results77, go_sem, v0, v1, v2, v3]) rfl ⟨D, none, rfl, HGz.out, ?_⟩
          rw [HF.out]
          exact Or.inl ⟨rfl, rfl, rfl, rfl, HPz.out⟩
      · have e93b : (p0 != 93) = true := by simpa using e93
        have HI2 : Hid (R0 = if (itemR s j).2.2 ≠ 0 then (c, (itemR s j).2.1, (itemR s j).2.2) else itemsR s s.size (itemR s j).2.1 (join c (itemR s j).1)) := by show _ = _; rw [← HIT.out]; conv => lhs; unfold itemsR; rw [if_neg (fun e => e93 (h93.2 e))]
        clear h93 e93 HP0 HIT HCT
        have hch := rchar_any s hs g j k wp HKp.out.pt
        have hrd := charR_rd s j hj
        obtain ⟨r, HR⟩ : ∃ r, Hid (charR s j = r) := ⟨_, (rfl : charR s j = charR s j)⟩
        rw [HR.out] at hch hrd
        go_wp2_with fail
        refine hch.mono ?_
        rintro e9 wc ⟨hfc, hcase⟩
        have HIR : Hid (itemR s j = if r.2.2 ≠ 0 ∨ bt s r.2.1 ≠ 45 then (range r.1 r.1, r.2.1, r.2.2) else if (charR s (r.2.1 + 1)).2.2 = 0 ∧ (charR s (r.2.1 + 1)).1 < r.1 then (range r.1 (charR s (r.2.1 + 1)).1, r.2.1 + 1, 6) else (range r.1 (charR s (r.2.1 + 1)).1, (charR s (r.2.1 + 1)).2.1, (charR s (r.2.1 + 1)).2.2)) := by show _ = _; unfold itemR; rw [HR.out]
        rcases hcase with ⟨he, rfl, hpt⟩ | ⟨he, st2, rfl, hst2, hsl, hpq⟩
        · have HKc : Hid (KL g s k w n m rb r.2.1 (rowf c) false wc) := HKp.out.fm hfc hlt hnw hmw hrw hpt
          have hr1 := hrd.v
          have hr2 := hrd.hi
          have hr3 := hrd.up he
          have HE0 : Hid (r.2.2 = 0) := he
          obtain ⟨lo, HLO⟩ : ∃ lo, Hid (r.1 = lo) := ⟨_, (rfl : r.1 = r.1)⟩
          rw [HLO.out] at hr1
          clear hpt hfc hch hrd he HKp HR
          obtain ⟨p1, HP1⟩ : ∃ p1, Hid (pk s r.2.1 = p1) := ⟨_, (rfl : pk s r.2.1 = pk s r.2.1)⟩
          have h45 := pk_is s r.2.1 45 (by omega)
          rw [HP1.out] at h45
          rw [HLO.out]
          go_wp2_with fail
          refine (peek_any g s r.2.1 k _ HKc.out.pt).mono ?_
          rintro _ wq ⟨rfl, hb⟩
          have HKq : Hid (KL g s k w n m rb r.2.1 (rowf c) false wq) := HKc.out.below hb
          clear hb HKc
          rw [HP1.out]
          by_cases e45 : p1 = 45
          · have hb45 := h45.1 e45
            have hil : r.2.1 < s.size := bt_is hb45 (by decide)
            have HIR2 : Hid (itemR s j = if (charR s (r.2.1 + 1)).2.2 = 0 ∧ (charR s (r.2.1 + 1)).1 < lo then (range lo (charR s (r.2.1 + 1)).1, r.2.1 + 1, 6) else (range lo (charR s (r.2.1 + 1)).1, (charR s (r.2.1 + 1)).2.1, (charR s (r.2.1 + 1)).2.2)) := by
              show _ = _
              rw [HIR.out, if_neg (by rintro (h | h); exact h HE0.out; exact h hb45), HLO.out]
            subst e45
            have c1 := HKq.out.pt.cells.1.2.1
            have f1 := HKq.out.pt.cells.2.2.1
            obtain ⟨wv, HWV⟩ : ∃ wv, Hid (wq.setCell ⟨g, 1, none⟩ (.int .i64 ((r.2.1 : Int) + 1)) = wv) := ⟨_, (rfl : _ = _)⟩
            have hfv : Fm (fun b => b = g) wq wv := by rw [← HWV.out]; exact Fm.set _ rfl
            have HKv : Hid (KL g s k w n m rb (r.2.1 + 1) (rowf c) false wv) := HKq.out.fm hfv hlt hnw hmw hrw (by rw [← HWV.out]; exact pt_step HKq.out.pt)
            go_upto_region 12 with fail
            rw [HWV.out]
            clear c1 f1 HWV hfv HKq HIR h45 hb45 HP1 HLO HE0
            have c1 : wv.cell? ⟨g, 1, none⟩ = some (.int .i64 ((r.2.1 : Int) + 1)) := by
              have := HKv.out.pt.cells.1.2.1
              rw [show (((r.2.1 + 1 : Nat)) : Int) = (r.2.1 : Int) + 1 by omega] at this
              exact this
            have hch2 := rchar_any s hs g (r.2.1 + 1) k wv HKv.out.pt
            have hrd2 := charR_rd s (r.2.1 + 1) (by omega)
            obtain ⟨r2, HR2⟩ : ∃ r2, Hid (charR s (r.2.1 + 1) = r2) := ⟨_, (rfl : charR s (r.2.1 + 1) = charR s (r.2.1 + 1))⟩
            rw [HR2.out] at hch2 hrd2 HIR2
            go_wp2_with fail
            refine hch2.mono ?_
            rintro e8 w8 ⟨hf8, hcase⟩
            rcases hcase with ⟨he, rfl, hpt⟩ | ⟨he, st2, rfl, hst2, hsl, hpq⟩
            · have HK8 : Hid (KL g s k w n m rb r2.2.1 (rowf c) false w8) := HKv.out.fm hf8 hlt hnw hmw hrw hpt
              have hq1 := hrd2.v
              have hq2 := hrd2.hi
              have hq3 := hrd2.up he
              have HE2 : Hid (r2.2.2 = 0) := he
              obtain ⟨hi, HHI⟩ : ∃ hi, Hid (r2.1 = hi) := ⟨_, (rfl : r2.1 = r2.1)⟩
              rw [HHI.out] at hq1 HIR2
              rw [HHI.out]
              clear hpt hf8 hch2 hrd2 he HKv HR2 c1
              by_cases hlh : hi < lo
              · have hd : decide ((hi : Int) < (lo : Int)) = true := by simp; omega
                have HI4 : Hid (R0 = (c, r.2.1 + 1, 6)) := by
                  show _ = _
                  have hx : itemR s j = (range lo hi, r.2.1 + 1, 6) := by rw [HIR2.out, if_pos ⟨HE2.out, hlh⟩]
                  rw [HI2.out, hx, if_pos (by simp)]
                obtain ⟨st2, HST⟩ : ∃ st2, Hid (w8.heap.size = st2) := ⟨_, (rfl : w8.heap.size = w8.heap.size)⟩
                obtain ⟨w7, HW7⟩ : ∃ w7, Hid (w8.alloc (.cells #[.int .i64 6, .int .i64 ((r.2.1 : Int) + 1)] 62) = w7) := ⟨_, (rfl : _ = _)⟩
                have hB7 : Below w8.heap.size w8 w7 := HW7.out ▸ bal_ _ _
                have hst2 : St st2 6 (r.2.1 + 1) w7 := by
                  have := St.new w8 6 (r.2.1 + 1)
                  rw [show (((r.2.1 + 1 : Nat)) : Int) = (r.2.1 : Int) + 1 by omega] at this
                  rw [← HST.out, ← HW7.out]; exact this
                have HK7 : Hid (KL g s k w n m rb r2.2.1 (rowf c) false w7) := HK8.out.below hB7
                have hsl : w.heap.size ≤ st2 := by rw [← HST.out]; exact HK8.out.gr.size
                have he : (6 : Nat) ≠ 0 := by omega
                have hbn := HK7.out.bn
                have hgr := HK7.out.gr
                have hpq : Pq g s k w7 := HK7.out.pt.any
                go_upto_region 16 with fail
                rw [HST.out, HW7.out]
                clear hB7 HST HW7 HK8 HI2 HIR2 HHI HE2 hd hlh
                obtain ⟨⟨x0, x1, x2, x3⟩, xf0, xf1, xf2, xf3⟩ := block4k hbn
                obtain ⟨wz, HWZ⟩ : ∃ wz, Hid (((((w7.setCell ⟨n, 0, none⟩ (.int .u64 0)).setCell ⟨n, 1, none⟩ (.int .u64 0)).setCell ⟨n, 2, none⟩ (.int .u64 0)).setCell ⟨n, 3, none⟩ (.int .u64 0)) = wz) := ⟨_, (rfl : _ = _)⟩
                have hfz : Fm (fun b => b = n) w7 wz := by rw [← HWZ.out]; exact put4_fm _ _ _ _ _ _
                have hbz : wz.heap[n]? = some (.cells #[.int .u64 0, .int .u64 0, .int .u64 0, .int .u64 0] 24) := by rw [← HWZ.out]; exact put4_at hbn _ _ _ _
                have HGz : Hid (Fm (fun b => b = g) w wz) := hgr.trans hfz fun q hq e => by omega
                have HPz : Hid (Pq g s k wz) := Pq.keep (show Pq g s k _ from hpq) hfz (by omega)
                have HSz : Hid (St st2 (6) (r.2.1 + 1) wz) := hst2.keep hfz (st4_ne hst2 hbn)
                have HHE : Hid (6 ≠ 0) := he
                have HSL : Hid (w.heap.size ≤ st2) := hsl
                have HF : Hid (rr = (0, Cls.empty, r.2.1 + 1, 6)) := by
                  show _ = _
                  rw [HSE.out, HI4.out]
                  unfold setE
                  rw [if_pos he]
                obtain ⟨⟨v0, v1, v2, v3⟩, -⟩ := block4k hbz
                clear hfz hbz hgr hpq hst2 hbn hsl he
                go_wp2_with fail
                rw [HWZ.out]
                refine bodyPost_ret (v := .tuple #[.agg #[.int .u64 0, .int .u64 0, .int .u64 0, .int .u64 0], .pointer (some ⟨st2, 0, none⟩)]) (by simp [results, Try.results77, go_sem, v0, v1, v2, v3]) rfl ⟨Cls.empty, _, rfl, HGz.out, ?_⟩
                rw [HF.out]
                exact Or.inr ⟨HHE.out, _, rfl, HSz.out, HSL.out, HPz.out⟩
              · have hd : decide ((hi : Int) < (lo : Int)) = false := by simp; omega
                have HI4 : Hid (R0 = itemsR s s.size r2.2.1 (join c (range lo hi))) := by
                  show _ = _
                  have hx : itemR s j = (range lo hi, r2.2.1, r2.2.2) := by rw [HIR2.out, if_neg (fun h => hlh h.2)]
                  rw [HI2.out, hx, if_neg (by simp [HE2.out])]
                have HKx : Hid (KL g s k w n m rb r2.2.1 (rowf c) false w8) := HK8.out
                clear HK8 HI2 HIR2 HHI HE2
                have HKi : Hid (KL g s k w n m rb (r2.2.1) (rowg c lo lo) false w8) := HKx.out.again fun x _ => rowg_start c lo x
                obtain ⟨wo, rfl⟩ : ∃ wo, wo = wr := ⟨_, rfl⟩
                go_upto_region 19 with fail
                go_loopw [11] (fun vb wi => ∃ b : Nat, vb = .int .i64 (b : Int) ∧ lo ≤ b ∧ b ≤ hi + 1 ∧ Hid (KL g s k w n m rb (r2.2.1) (rowg c lo b) false wi)) (fun vb _ => hi + 1 - (intOf vb).toNat)
                case atStart => exact ⟨lo, rfl, Nat.le_refl _, by omega, HKi.out⟩
                case round =>
                  clear HKi HKx
                  obtain ⟨b, rfl, hb1, hb2, HI⟩ := hrel
                  by_cases hbh : b ≤ hi
                  · have hd : decide ((b : Int) ≤ (hi : Int)) = true := by simp; omega
                    have hbb : b < 256 := by omega
                    have cx := HI.out.row.cell hbb
                    have fx := HI.out.row.frozen b
                    obtain ⟨wn, HWN⟩ : ∃ wn, Hid (wr.setCell ⟨rb, b, none⟩ (.int .i64 1) = wn) := ⟨_, (rfl : _ = _)⟩
                    have HKn : Hid (KL g s k w n m rb (r2.2.1) (rowg c lo (b + 1)) false wn) := HI.out.put hb1 hlt hrw hnr hmr HWN.out
                    go_wp2_with fail
                    rw [HWN.out]
                    go_roundw
                    case rel => exact ⟨b + 1, by go_num, by omega, by omega, HKn.out⟩
                    case measure => simp [intOf]; omega
                  · have hd : decide ((b : Int) ≤ (hi : Int)) = false := by simp; omega
                    have hbe : b = hi + 1 := by omega
                    have HKe : Hid (KL g s k w n m rb (r2.2.1) (rowf (join c (range lo hi))) false wr) := by
                      have h := HI.out
                      rw [hbe] at h
                      exact h.again fun x hx => rowg_end c lo hi x hx
                    have HPE : Hid (posOf g wr = r2.2.1) := HKe.out.pt.pos
                    clear hbe HI
                    go_wp2_with fail
                    refine ⟨⟨ct + 1, r2.2.1, join c (range lo hi), by go_num, by omega, by omega, ⟨fun h => absurd h (by omega), HKe.out, ?_⟩⟩, ?_⟩
                    · rw [HI4.out]
                      exact (itemsR_more s s.size (s.size + 1) _ _ (by omega) (by omega) (by omega)).symm
                    · refine Nat.lt_of_le_of_lt (Nat.le_of_eq (congrArg (s.size - ·) HPE.out)) ?_
                      rw [HPOS.out]; omega
            · have hbn := (hf8.block n (in_heap HKv.out.bn) (by omega)).trans HKv.out.bn
              have hgr := HKv.out.gr.trans hf8 fun _ _ e => e
              have hsl := Nat.le_trans HKv.out.gr.size hsl
              have HI4 : Hid (R0 = (c, r2.2.1, r2.2.2)) := by
                show _ = _
                have hx : itemR s j = (range lo r2.1, r2.2.1, r2.2.2) := by rw [HIR2.out, if_neg (fun h => he h.1)]
                rw [HI2.out, hx, if_pos he]
              clear HI2 HIR2 hf8 hch2 hrd2 HKv HR2 c1
              obtain ⟨⟨x0, x1, x2, x3⟩, xf0, xf1, xf2, xf3⟩ := block4k hbn
              obtain ⟨wz, HWZ⟩ : ∃ wz, Hid (((((w8.setCell ⟨n, 0, none⟩ (.int .u64 0)).setCell ⟨n, 1, none⟩ (.int .u64 0)).setCell ⟨n, 2, none⟩ (.int .u64 0)).setCell ⟨n, 3, none⟩ (.int .u64 0)) = wz) := ⟨_, (rfl : _ = _)⟩
              have hfz : Fm (fun b => b = n) w8 wz := by rw [← HWZ.out]; exact put4_fm _ _ _ _ _ _
              have hbz : wz.heap[n]? = some (.cells #[.int .u64 0, .int .u64 0, .int .u64 0, .int .u64 0] 24) := by rw [← HWZ.out]; exact put4_at hbn _ _ _ _
              have HGz : Hid (Fm (fun b => b = g) w wz) := hgr.trans hfz fun q hq e => by omega
              have HPz : Hid (Pq g s k wz) := Pq.keep (show Pq g s k _ from hpq) hfz (by omega)
              have HSz : Hid (St st2 (r2.2.2) (r2.2.1) wz) := hst2.keep hfz (st4_ne hst2 hbn)
              have HHE : Hid (r2.2.2 ≠ 0) := he
              have HSL : Hid (w.heap.size ≤ st2) := hsl
              have HF : Hid (rr = (0, Cls.empty, r2.2.1, r2.2.2)) := by
                show _ = _
                rw [HSE.out, HI4.out]
                unfold setE
                rw [if_pos he]
              obtain ⟨⟨v0, v1, v2, v3⟩, -⟩ := block4k hbz
              clear hfz hbz hgr hpq hst2 hbn hsl he
              go_wp2_with fail
              rw [HWZ.out]
              refine bodyPost_ret (v := .tuple #[.agg #[.int .u64 0, .int .u64 0, .int .u64 0, .int .u64 0], .pointer (some ⟨st2, 0, none⟩)]) (by simp [results, Try.results77, go_sem, v0, v1, v2, v3]) rfl ⟨Cls.empty, _, rfl, HGz.out, ?_⟩
              rw [HF.out]
              exact Or.inr ⟨HHE.out, _, rfl, HSz.out, HSL.out, HPz.out⟩
          · have e45b : (p1 == 45) = false := by simpa using e45
            have hn45 : bt s r.2.1 ≠ 45 := fun e => e45 (h45.2 e)
            have HI4 : Hid (R0 = itemsR s s.size r.2.1 (join c (range lo lo))) := by
              show _ = _
              rw [HI2.out, HIR.out, if_pos (Or.inr hn45), HLO.out]
              simp only [HE0.out]
              simp
            have HKx : Hid (KL g s k w n m rb r.2.1 (rowf c) false wq) := HKq.out
            clear HKq HI2 HIR h45 hn45 e45 HP1 HLO HE0
            have HKi : Hid (KL g s k w n m rb (r.2.1) (rowg c lo lo) false wq) := HKx.out.again fun x _ => rowg_start c lo x
            obtain ⟨wo, rfl⟩ : ∃ wo, wo = wr := ⟨_, rfl⟩
            go_upto_region 19 with fail
            go_loopw [11] (fun vb wi => ∃ b : Nat, vb = .int .i64 (b : Int) ∧ lo ≤ b ∧ b ≤ lo + 1 ∧ Hid (KL g s k w n m rb (r.2.1) (rowg c lo b) false wi)) (fun vb _ => lo + 1 - (intOf vb).toNat)
            case atStart => exact ⟨lo, rfl, Nat.le_refl _, by omega, HKi.out⟩
            case round =>
              clear HKi HKx
              obtain ⟨b, rfl, hb1, hb2, HI⟩ := hrel
              by_cases hbh : b ≤ lo
              · have hd : decide ((b : Int) ≤ (lo : Int)) = true := by simp; omega
                have hbb : b < 256 := by omega
                have cx := HI.out.row.cell hbb
                have fx := HI.out.row.frozen b
                obtain ⟨wn, HWN⟩ : ∃ wn, Hid (wr.setCell ⟨rb, b, none⟩ (.int .i64 1) = wn) := ⟨_, (rfl : _ = _)⟩
                have HKn : Hid (KL g s k w n m rb (r.2.1) (rowg c lo (b + 1)) false wn) := HI.out.put hb1 hlt hrw hnr hmr HWN.out
                go_wp2_with fail
                rw [HWN.out]
                go_roundw
                case rel => exact ⟨b + 1, by go_num, by omega, by omega, HKn.out⟩
                case measure => simp [intOf]; omega
              · have hd : decide ((b : Int) ≤ (lo : Int)) = false := by simp; omega
                have hbe : b = lo + 1 := by omega
                have HKe : Hid (KL g s k w n m rb (r.2.1) (rowf (join c (range lo lo))) false wr) := by
                  have h := HI.out
                  rw [hbe] at h
                  exact h.again fun x hx => rowg_end c lo lo x hx
                have HPE : Hid (posOf g wr = r.2.1) := HKe.out.pt.pos
                clear hbe HI
                go_wp2_with fail
                refine ⟨⟨ct + 1, r.2.1, join c (range lo lo), by go_num, by omega, by omega, ⟨fun h => absurd h (by omega), HKe.out, ?_⟩⟩, ?_⟩
                · rw [HI4.out]
                  exact (itemsR_more s s.size (s.size + 1) _ _ (by omega) (by omega) (by omega)).symm
                · refine Nat.lt_of_le_of_lt (Nat.le_of_eq (congrArg (s.size - ·) HPE.out)) ?_
                  rw [HPOS.out]; omega
        · have hbn := (hfc.block n (in_heap HKp.out.bn) (by omega)).trans HKp.out.bn
          have hgr := HKp.out.gr.trans hfc fun _ _ e => e
          have hsl := Nat.le_trans HKp.out.gr.size hsl
          have HI4 : Hid (R0 = (c, r.2.1, r.2.2)) := by
            show _ = _
            rw [HI2.out, HIR.out, if_pos (Or.inl he), if_pos he]
          clear HI2 HIR hfc hch hrd HKp HR
          obtain ⟨⟨x0, x1, x2, x3⟩, xf0, xf1, xf2, xf3⟩ := block4k hbn
          obtain ⟨wz, HWZ⟩ : ∃ wz, Hid (((((wc.setCell ⟨n, 0, none⟩ (.int .u64 0)).setCell ⟨n, 1, none⟩ (.int .u64 0)).setCell ⟨n, 2, none⟩ (.int .u64 0)).setCell ⟨n, 3, none⟩ (.int .u64 0)) = wz) := ⟨_, (rfl : _ = _)⟩
          have hfz : Fm (fun b => b = n) wc wz := by rw [← HWZ.out]; exact put4_fm _ _ _ _ _ _
          have hbz : wz.heap[n]? = some (.cells #[.int .u64 0, .int .u64 0, .int .u64 0, .int .u64 0] 24) := by rw [← HWZ.out]; exact put4_at hbn _ _ _ _
          have HGz : Hid (Fm (fun b => b = g) w wz) := hgr.trans hfz fun q hq e => by omega
          have HPz : Hid (Pq g s k wz) := Pq.keep (show Pq g s k _ from hpq) hfz (by omega)
          have HSz : Hid (St st2 (r.2.2) (r.2.1) wz) := hst2.keep hfz (st4_ne hst2 hbn)
          have HHE : Hid (r.2.2 ≠ 0) := he
          have HSL : Hid (w.heap.size ≤ st2) := hsl
          have HF : Hid (rr = (0, Cls.empty, r.2.1, r.2.2)) := by
            show _ = _
            rw [HSE.out, HI4.out]
            unfold setE
            rw [if_pos he]
          obtain ⟨⟨v0, v1, v2, v3⟩, -⟩ := block4k hbz
          clear hfz hbz hgr hpq hst2 hbn hsl he
          go_wp2_with fail
          rw [HWZ.out]
          refine bodyPost_ret (v := .tuple #[.agg #[.int .u64 0, .int .u64 0, .int .u64 0, .int .u64 0], .pointer (some ⟨st2, 0, none⟩)]) (by simp [results, Try.results77, go_sem, v0, v1, v2, v3]) rfl ⟨Cls.empty, _, rfl, HGz.out, ?_⟩
          rw [HF.out]
          exact Or.inr ⟨HHE.out, _, rfl, HSz.out, HSL.out, HPz.out⟩
end Go.Proofs.Ythloedfiomfnbaa
