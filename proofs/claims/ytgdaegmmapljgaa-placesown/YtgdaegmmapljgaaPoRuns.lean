/-
  The contracts of places.having, places.behind and places.run.
-/
import Derived.Test.YtgdaegmmapljgaaPoWalks
import Derived.Test.YtgdaegmmapljgaaKeeps
import Derived.Deep.WholeRow
namespace Go.Proofs.Ytgdaegmmapljgaa
open Go.RowKit
open Cls Po

theorem take_filter {α : Type} (l : List α) (f : α → Bool) (q : Nat) (h : q < l.length) : (l.take (q + 1)).filter f = (l.take q).filter f ++ (if f l[q] = true then [l[q]] else []) := by
  rw [List.take_succ_eq_append_getElem h, List.filter_append]
  congr 1
  by_cases e : f l[q] = true
  · simp [e]
  · simp [e]

/-- A cell of a block ahead of the row that grew. -/
theorem grown_cell {w w2 : World} {v : Value} (hg : w.grownBy w2 v.ownBlock) (g o : Nat) (hlt : g < w.heap.size) (hne : ∀ k, v.ownBlock = some k → g < k) : w2.cell? ⟨g, o, none⟩ = w.cell? ⟨g, o, none⟩ := by
  have h : w2.heap[g]? = w.heap[g]? := hg.block g hlt (by intro e; have := hne g e.symm; omega)
  simp [World.cell?, h]
set_option maxHeartbeats 1600000 in
set_option maxRecDepth 20000 in
theorem having_any (v0 v1 v2 v3 v4 v5 lv : Value) (p : P) (l : List Int) (b : UInt8) (w : World) (hp : Pn w v0 v1 v2 v3 v4 v5 p) (hl : Ints w lv l) (hin : ∀ x ∈ l, 0 ≤ x ∧ x < (p.cls.length : Int)) (hlen : l.length ≤ 200) :
    Calls Try.prog 50 #[.agg #[v0, v1, v2, v3, v4, v5], lv, .int .u8 (b.toNat : Int)] w fun e w' => ∃ v', e = .returned v' ∧ Ints w' v' (l.filter (hasAt p b.toNat)) ∧ Fr w.heap.size v' ∧ Below w.heap.size w w' := by
  obtain ⟨i0, hi, hz0, hz1, hz2⟩ := info_parts info3
  obtain ⟨a0, k0, rfl, hm0, hcs0⟩ := hp.cls
  obtain ⟨ao, cap, rfl, hm, hcs⟩ := hl
  clear hp
  have HIN : Hid (∀ x ∈ l, 0 ≤ x ∧ x < (p.cls.length : Int)) := hin
  have HCS0 : Hid (p.cls = [] ∨ ∃ b o, a0 = some ⟨b, o, none⟩ ∧ b < w.heap.size ∧ ∀ i (hi : i < p.cls.length) j, j < 4 → w.cell? ⟨b, o + i * 4 + j, none⟩ = some (.int .u64 ((wd p.cls[i] j).toNat : Int))) := hcs0
  clear hin hcs0
  go_enter Try.func50, Try.ntmps50
  go_wp2_with fail
  go_loopw [12, 7] (fun i v wr => ∃ q : Nat, q ≤ l.length ∧ i = .int .i64 (q : Int) ∧ wr.ownsRow (w.heap.size + 1) 3 1 v ((l.take q).filter (hasAt p b.toNat)).length (((l.take q).filter (hasAt p b.toNat)).map (Value.int .i64)) ∧ wr.cell? ⟨w.heap.size, 0, none⟩ = some (.slice a0 p.cls.length k0) ∧ w.heap.size < wr.heap.size ∧ Below w.heap.size w wr) (fun i _ _ => l.length - (intOf i).toNat)
  case atStart => exact ⟨0, by omega, rfl, World.ownsRow_nil _ _ _ _, by simp, by simp, (Below.refl _ _).alloc (Nat.le_refl _) _⟩
  case round =>
    obtain ⟨q, hq, rfl, hown, hbox, hgl, hbel⟩ := hrel
    have hsb := hbel.size
    by_cases hlt : q < l.length
    · obtain ⟨bb, o, rfl, hb, hc⟩ := hcs.resolve_left (by intro e; subst e; simp at hlt)
      have c0 : wr.cell? ⟨bb, o + q, none⟩ = _ := (hbel.cell (p := ⟨bb, o + q, none⟩) hb).trans (hc q hlt)
      have hz := HIN.out l[q] (List.getElem_mem hlt)
      have HT : Hid ((l.take (q + 1)).filter (hasAt p b.toNat) = (l.take q).filter (hasAt p b.toNat) ++ (if hasAt p b.toNat l[q] = true then [l[q]] else [])) := take_filter l _ q hlt
      obtain ⟨z, HZ⟩ : ∃ z, Hid (l[q] = z) := ⟨_, (rfl : l[q] = l[q])⟩
      rw [HZ.out] at c0 hz HT
      obtain ⟨y, rfl⟩ : ∃ y : Nat, z = (y : Int) := ⟨z.toNat, by omega⟩
      have hy : y < p.cls.length := by omega
      have hy1 : (y : Int) < (p.cls.length : Int) := by omega
      obtain ⟨b1, o1, rfl, hb1, hd⟩ := HCS0.out.resolve_left (by intro e; rw [e] at hy; simp at hy)
      have HH : Hid (hasAt p b.toNat (y : Int) = mem p.cls[y] b.toNat) := by show _ = _; unfold hasAt; rw [Int.toNat_natCast, List.getElem?_eq_getElem hy]
      obtain ⟨c, HC⟩ : ∃ c, Hid (p.cls[y] = c) := ⟨_, (rfl : p.cls[y] = p.cls[y])⟩
      rw [HC.out] at HH
      have d : ∀ j, j < 4 → wr.cell? ⟨b1, o1 + y * 4 + j, none⟩ = some (.int .u64 ((wd c j).toNat : Int)) := fun j hj => by
        rw [← HC.out]; exact (hbel.cell (p := ⟨b1, o1 + y * 4 + j, none⟩) hb1).trans (hd y hy j hj)
      have d0 : wr.cell? ⟨b1, o1 + y * 4, none⟩ = some (.int .u64 (c.1.toNat : Int)) := d 0 (by omega)
      have d1 : wr.cell? ⟨b1, o1 + y * 4 + 1, none⟩ = some (.int .u64 (c.2.1.toNat : Int)) := d 1 (by omega)
      have d2 : wr.cell? ⟨b1, o1 + y * 4 + 2, none⟩ = some (.int .u64 (c.2.2.1.toNat : Int)) := d 2 (by omega)
      have d3 : wr.cell? ⟨b1, o1 + y * 4 + 3, none⟩ = some (.int .u64 (c.2.2.2.toNat : Int)) := d 3 (by omega)
      have hk1 : (q : Int) < (l.length : Int) := by omega
      have hfl : ((l.take q).filter (hasAt p b.toNat)).length ≤ q := by have := List.length_filter_le (hasAt p b.toNat) (l.take q); have := List.length_take_le q l; omega
      clear hcs hc hd d
      go_wp2_with fail
      refine (has_any c _ b.toNat rfl b.toNat_lt _).mono ?_
      rintro _ w1 ⟨rfl, hL⟩
      have hb2 := hL.below
      have hbox2 : w1.cell? ⟨w.heap.size, 0, none⟩ = some (.slice (some ⟨b1, o1, none⟩) p.cls.length k0) := (hb2.cell (p := ⟨w.heap.size, 0, none⟩) hgl).trans hbox
      have hown2 := own_below hown hb2
      have hbel2 : Below w.heap.size w w1 := hbel.trans (hb2.mono hsb)
      have hgl2 : w.heap.size < w1.heap.size := Nat.lt_of_lt_of_le hgl hb2.size
      have hsb2 := hbel2.size
      clear hL hb2 hown hbox hbel hgl hsb c0 d0 d1 d2 d3
      cases hx : mem c b.toNat with
      | true =>
        have HS : Hid ((l.take (q + 1)).filter (hasAt p b.toNat) = (l.take q).filter (hasAt p b.toNat) ++ [(y : Int)]) := by show _ = _; rw [HT.out, if_pos (by rw [HH.out, hx])]
        clear hx
        go_wp2_with (at_builtin; refine wpList_append_own _ rfl _ _ 24 rfl (w.heap.size + 1) 3 i0 (.int .i64 0) 1 8 Try.underlying24 hi hz0 hz1 hz2 rfl (by decide) _ _ _ rfl (hown2.alloc _) ⟨w1.heap.size, 0, none⟩ 1 1 [.int .i64 (y : Int)] rfl rfl (World.news_of_block (t := 3) (fr := (0, 0)) (heap_alloc_new w1 _)) (by simp [Value.oneCell']) (by unfold maxLen; omega) (by omega) (by simp; omega) ?_)
        intro v' w2 hown' hgrow _
        have R1 : w2.ownsRow (w.heap.size + 1) 3 1 v' ((l.take (q + 1)).filter (hasAt p b.toNat)).length (((l.take (q + 1)).filter (hasAt p b.toNat)).map (Value.int .i64)) := by rw [HS.out, List.length_append, List.map_append]; exact hown'
        have R2 : Below w.heap.size w w2 := Below.grown (hbel2.alloc hsb2 _) hgrow (by simp; omega) (fun k hk => by have := own_ge hown2 k hk; omega)
        have R3 : w2.cell? ⟨w.heap.size, 0, none⟩ = some (.slice (some ⟨b1, o1, none⟩) p.cls.length k0) := (grown_cell hgrow w.heap.size 0 (by simp; omega) (fun k hk => own_ge hown2 k hk)).trans ((World.cell?_alloc_lt _ _ _ hgl2).trans hbox2)
        have R4 : w.heap.size < w2.heap.size := Nat.lt_of_lt_of_le (by simp; omega) hgrow.size
        clear hown' hgrow hown2 hbel2 hbox2
        go_wp2_with fail
        go_roundw
        case rel => exact ⟨q + 1, by omega, by go_num, R1, R3, R4, R2⟩
        case measure => simp [intOf]; omega
      | false =>
        have HS : Hid ((l.take (q + 1)).filter (hasAt p b.toNat) = (l.take q).filter (hasAt p b.toNat)) := by show _ = _; rw [HT.out, if_neg (by rw [HH.out, hx]; simp)]; simp
        clear hx
        go_wp2_with fail
        go_roundw
        case rel => exact ⟨q + 1, by omega, by go_num, by rw [HS.out]; exact hown2, hbox2, hgl2, hbel2⟩
        case measure => simp [intOf]; omega
    · obtain rfl : q = l.length := by omega
      have hfl := List.length_filter_le (hasAt p b.toNat) l
      have HI : Hid (Ints wr _ _) := ints_of_own hown (by rw [List.take_length]; omega)
      have HFr : Hid (Fr w.heap.size _) := Fr.less (own_ge hown) (Nat.le_succ _)
      obtain ⟨a', m', c', rfl⟩ := own_form hown
      go_wp2_with fail
      go_ret
      exact ⟨_, rfl, by have := HI.out; rwa [List.take_length] at this, HFr.out, hbel⟩

theorem block_cell {w : World} {g : Nat} {cs : Array Value} {t : TypeId} {fr : Nat × Nat} (h : w.heap[g]? = some (.cells cs t fr)) (i : Nat) : w.cell? ⟨g, i, none⟩ = cs[i]? := by simp [World.cell?, h]
theorem block_free {w : World} {g : Nat} {cs : Array Value} {t : TypeId} (h : w.heap[g]? = some (.cells cs t (0, 0))) (i : Nat) : w.frozen? ⟨g, i, none⟩ = false := by simp [World.frozen?, h]
theorem block_store {w : World} {g i : Nat} {cs : Array Value} {t : TypeId} {fr : Nat × Nat} (h : w.heap[g]? = some (.cells cs t fr)) (v : Value) : (w.setCell ⟨g, i, none⟩ v).heap[g]? = some (.cells (cs.setIfInBounds i v) t fr) := by
  rw [setCell_eq_setRow w g i cs t fr v h]
  exact setRow_heap w g _ _ t _ h
theorem block_lt {w : World} {g : Nat} {o : Obj} (h : w.heap[g]? = some o) : g < w.heap.size := by
  rcases Nat.lt_or_ge g w.heap.size with h' | h'
  · exact h'
  · simp [Array.getElem?_eq_none h'] at h
/-- Marks, as they lie in memory. -/
def tb (n : Nat) (F : Nat → Bool) : Array Value := ((List.range n).map fun i => Value.bool (F i)).toArray
theorem tb_at (n : Nat) (F : Nat → Bool) (i : Nat) (h : i < n) : (tb n F)[i]? = some (.bool (F i)) := by simp [tb, h]
theorem tb_set (n : Nat) (F : Nat → Bool) (x : Nat) : (tb n F).setIfInBounds x (.bool true) = tb n (fun i => F i || i == x) := by
  apply Array.ext_getElem?
  intro i
  rw [Array.getElem?_setIfInBounds]
  by_cases h : i < n
  · rw [tb_at _ _ _ h, tb_at _ _ _ h]
    by_cases e : x = i
    · subst e
      simp [tb, h]
    · rw [if_neg e]
      have : (i == x) = false := by simp; exact fun e' => e e'.symm
      rw [this, Bool.or_false]
  · have e1 : (tb n F)[i]? = none := Array.getElem?_eq_none (by simp [tb]; omega)
    have e2 : (tb n (fun i => F i || i == x))[i]? = none := Array.getElem?_eq_none (by simp [tb]; omega)
    rw [e1, e2]
    split
    · rw [if_neg (by simp [tb]; omega)]
    · rfl
theorem tb_none (n : Nat) : Array.replicate n (Value.bool false) = tb n (fun _ => false) := by
  unfold tb
  apply Array.toList_inj.1
  simp only [Array.toList_replicate]
  apply List.ext_getElem
  · simp
  · intro i h1 h2; simp
theorem zero91 (w : World) : (zeroValue 91).run Try.prog w = .ok (.agg (tb 200 fun _ => false)) w := by
  rw [← tb_none]
  exact (zero_of_info (P := Try.prog) (t := 91) (v := .agg (Array.replicate 200 (.bool false))) (n := 200) (by kernel_rfl)).1 w
theorem bls_block {w : World} {g n : Nat} {F : Nat → Bool} {t : TypeId} (h : w.heap[g]? = some (.cells (tb n F) t (0, 0))) (hn : n ≤ 9223372036854775807) : Bls w (.slice (some ⟨g, 0, none⟩) n n) ((List.range n).map F) := by
  refine ⟨some ⟨g, 0, none⟩, n, by simp, by simpa using hn, Or.inr ⟨g, 0, rfl, block_lt h, fun i hi => ?_⟩⟩
  have hi' : i < n := by simpa using hi
  rw [Nat.zero_add, block_cell h, tb_at _ _ _ hi']
  simp
theorem map_getD (n : Nat) (F : Nat → Bool) : sel ((List.range n).map F).length (((List.range n).map F).getD · false) = sel n F := by
  rw [List.length_map, List.length_range]
  exact sel_congr fun x hx => by simp [List.getD, hx]

theorem behindB_snoc (p : P) (l : List Int) (q : Nat) (h : q < l.length) (x : Nat) : behindB p (l.take (q + 1)) x = (behindB p (l.take q) x || (p.follow.getD l[q].toNat []).contains (x : Int)) := by
  unfold behindB
  rw [List.take_succ_eq_append_getElem h, List.any_append]
  simp
theorem contains_snoc (m : List Int) (j : Nat) (h : j < m.length) (x : Int) : (m.take (j + 1)).contains x = ((m.take j).contains x || x == m[j]) := by
  have e : m.take (j + 1) = m.take j ++ [m[j]] := List.take_succ_eq_append_getElem h
  rw [e, Bool.eq_iff_iff]
  simp only [List.contains_iff_mem, List.mem_append, List.mem_singleton, Bool.or_eq_true, beq_iff_eq]

set_option maxHeartbeats 1600000 in
set_option maxRecDepth 20000 in
theorem behind_any (v0 v1 v2 v3 v4 v5 lv : Value) (p : P) (l : List Int) (w : World) (hp : Pn w v0 v1 v2 v3 v4 v5 p) (hl : Ints w lv l) (hin : ∀ x ∈ l, 0 ≤ x ∧ x < (p.cls.length : Int)) (hok : ok p = true) (hn : p.cls.length ≤ 200) :
    Calls Try.prog 51 #[.agg #[v0, v1, v2, v3, v4, v5], lv] w fun e w' => ∃ v', e = .returned v' ∧ Ints w' v' (sel 200 (behindB p l)) ∧ Fr w.heap.size v' ∧ Below w.heap.size w w' := by
  obtain ⟨g, HG⟩ : ∃ g, Hid (w.heap.size = g) := ⟨_, (rfl : w.heap.size = w.heap.size)⟩
  have HP := hp
  obtain ⟨a3, k3, rfl, hm3, hcs3⟩ := hp.follow
  obtain ⟨ao, cap, rfl, hm, hcs⟩ := hl
  have HIN : Hid (∀ x ∈ l, 0 ≤ x ∧ x < (p.cls.length : Int)) := hin
  have HOK : Hid (p.follow.length = p.cls.length ∧ p.follow.all (rises p.cls.length) = true) := by
    have := (ok_iff p).1 hok; exact ⟨this.2.1, this.2.2.2.2.2.2.2⟩
  have HCS3 : Hid (p.follow = [] ∨ ∃ b o, a3 = some ⟨b, o, none⟩ ∧ b < w.heap.size ∧ ∀ i (hi : i < p.follow.length), ∃ u, w.cell? ⟨b, o + i, none⟩ = some u ∧ Ints w u p.follow[i]) := hcs3
  clear hin hcs3 hok HP hp
  have hz91 := zero91
  go_enter Try.func51, Try.ntmps51
  go_wp2_with fail
  go_loopw [12] (fun i wr => ∃ (q : Nat) (F : Nat → Bool), q ≤ l.length ∧ i = .int .i64 (q : Int) ∧ Hid (∀ x, F x = behindB p (l.take q) x) ∧ wr.heap[w.heap.size + 1]? = some (.cells (tb 200 F) 91 (0, 0)) ∧ wr.cell? ⟨w.heap.size, 3, none⟩ = some (.slice a3 p.follow.length k3) ∧ Below w.heap.size w wr) (fun i _ => l.length - (intOf i).toNat)
  case atStart => exact ⟨0, fun _ => false, by omega, rfl, fun x => by simp [behindB], by rw [show w.heap.size + 1 = (w.alloc (Obj.cells #[v0, v1, v2, Value.slice a3 p.follow.length k3, v4, v5] 28)).heap.size by simp]; exact heap_alloc_last _ _, by simp, ((Below.refl _ _).alloc (Nat.le_refl _) _).alloc (by simp) _⟩
  case round =>
    obtain ⟨q, F, hq, rfl, HF, hblk, hbox, hbel⟩ := hrel
    have hsb := hbel.size
    clear hz91
    by_cases hlt : q < l.length
    · obtain ⟨bb, o, rfl, hb, hc⟩ := hcs.resolve_left (by intro e; subst e; simp at hlt)
      have c0 : wr.cell? ⟨bb, o + q, none⟩ = _ := (hbel.cell (p := ⟨bb, o + q, none⟩) hb).trans (hc q hlt)
      have hz := HIN.out l[q] (List.getElem_mem hlt)
      have HT : Hid (∀ x, behindB p (l.take (q + 1)) x = (behindB p (l.take q) x || (p.follow.getD l[q].toNat []).contains (x : Int))) := behindB_snoc p l q hlt
      obtain ⟨z, HZ⟩ : ∃ z, Hid (l[q] = z) := ⟨_, (rfl : l[q] = l[q])⟩
      rw [HZ.out] at c0 hz HT
      obtain ⟨y, rfl⟩ : ∃ y : Nat, z = (y : Int) := ⟨z.toNat, by omega⟩
      have hy : y < p.follow.length := by rw [HOK.out.1]; omega
      have hy1 : (y : Int) < (p.follow.length : Int) := by omega
      obtain ⟨b1, o1, rfl, hb1, hd⟩ := HCS3.out.resolve_left (by intro e; rw [e] at hy; simp at hy)
      obtain ⟨u, d0, hu⟩ := hd y hy
      have d1 : wr.cell? ⟨b1, o1 + y, none⟩ = some u := (hbel.cell (p := ⟨b1, o1 + y, none⟩) hb1).trans d0
      obtain ⟨m, HM⟩ : ∃ m, Hid (p.follow[y] = m) := ⟨_, (rfl : p.follow[y] = p.follow[y])⟩
      rw [HM.out] at hu
      have HT2 : Hid (∀ x, behindB p (l.take (q + 1)) x = (behindB p (l.take q) x || m.contains (x : Int))) := fun x => by
        rw [HT.out x, Int.toNat_natCast, List.getD_eq_getElem?_getD, List.getElem?_eq_getElem hy, HM.out]; rfl
      have HR : Hid (∀ x ∈ m, -1 < x ∧ x < (p.cls.length : Int)) := by
        have h1 := List.all_eq_true.1 HOK.out.2 m (by rw [← HM.out]; exact List.getElem_mem hy)
        exact ((risesFrom_iff _ _ _).1 h1).1
      obtain ⟨am, km, rfl, hmm, hmc⟩ := hu
      have hk1 : (q : Int) < (l.length : Int) := by omega
      clear hcs hc hd d0
      go_wp2_with fail
      go_loopw [22] (fun i wx => ∃ (j : Nat) (G : Nat → Bool), j ≤ m.length ∧ i = .int .i64 (j : Int) ∧ Hid (∀ x, G x = (behindB p (l.take q) x || (m.take j).contains (x : Int))) ∧ wx.heap[w.heap.size + 1]? = some (.cells (tb 200 G) 91 (0, 0)) ∧ wx.cell? ⟨w.heap.size, 3, none⟩ = some (.slice (some ⟨b1, o1, none⟩) p.follow.length k3) ∧ Below w.heap.size w wx) (fun i _ => m.length - (intOf i).toNat)
      case atStart => exact ⟨0, F, by omega, rfl, fun x => by rw [HF.out x]; simp, hblk, hbox, hbel⟩
      case round =>
        clear hblk hbox hbel c0 d1 hsb
        obtain ⟨j, G, hj, rfl, HGf, hblk, hbox, hbel⟩ := hrel
        by_cases hjt : j < m.length
        · obtain ⟨b2, o2, rfl, hb2, hc2⟩ := hmc.resolve_left (by intro e; subst e; simp at hjt)
          have e0 : wr.cell? ⟨b2, o2 + j, none⟩ = _ := (hbel.cell (p := ⟨b2, o2 + j, none⟩) hb2).trans (hc2 j hjt)
          have hx := HR.out m[j] (List.getElem_mem hjt)
          have HS : Hid (∀ x : Int, (m.take (j + 1)).contains x = ((m.take j).contains x || x == m[j])) := contains_snoc m j hjt
          obtain ⟨z, HX⟩ : ∃ z, Hid (m[j] = z) := ⟨_, (rfl : m[j] = m[j])⟩
          rw [HX.out] at e0 hx HS
          obtain ⟨x, rfl⟩ : ∃ x : Nat, z = (x : Int) := ⟨z.toNat, by omega⟩
          have hx1 : (x : Int) < 200 := by omega
          have hx2 : x < 200 := by omega
          have hj1 : (j : Int) < (m.length : Int) := by omega
          have f0 : wr.cell? ⟨w.heap.size + 1, x, none⟩ = some (.bool (G x)) := (block_cell hblk x).trans (tb_at 200 G x hx2)
          have f1 : wr.frozen? ⟨w.heap.size + 1, x, none⟩ = false := block_free hblk x
          clear hmc hc2
          go_wp2_with fail
          go_roundw
          case rel =>
            refine ⟨j + 1, fun i => G i || i == x, by omega, by go_num, fun i => ?_, ?_, ?_, ?_⟩
            · show (G i || i == x) = _
              rw [HGf.out i, HS.out, Bool.or_assoc]
              congr 2
              rw [Bool.eq_iff_iff]; simp; omega
            · rw [← tb_set]; exact block_store hblk _
            · rw [World.cell?_setCell_other _ _ _ _ (by simp)]; exact hbox
            · exact hbel.setCell (p := ⟨w.heap.size + 1, x, none⟩) (by simp) _
          case measure => simp [intOf]; omega
        · go_wp2_with fail
          go_roundw
          case rel => exact ⟨q + 1, G, by omega, by go_num, fun x => by rw [HGf.out x, HT2.out x, show m.take j = m from List.take_of_length_le (Nat.le_of_not_lt hjt)], hblk, hbox, hbel⟩
          case measure => simp [intOf]; omega
    · have hbls := bls_block hblk (by omega)
      have hmk := marked_any _ _ wr hbls (by simp)
      rw [map_getD] at hmk
      have HF2 : Hid (sel 200 F = sel 200 (behindB p l)) := by
        show _ = _
        apply sel_congr
        intro x _
        rw [HF.out x, List.take_of_length_le (by omega)]
      rw [HF2.out] at hmk
      clear hbls
      go_wp2_with fail
      refine hmk.mono ?_
      rintro _ w1 ⟨v', rfl, hI, hFr, hB⟩
      have HI : Hid (Ints w1 v' _ ∧ Fr w.heap.size v' ∧ Below w.heap.size w w1) := ⟨hI, hFr.less hsb, hbel.trans (hB.mono hsb)⟩
      obtain ⟨aa, kk, rfl, -, -⟩ := hI
      clear hmk hB hFr
      go_wp2_with fail
      go_ret
      exact ⟨_, rfl, HI.out.1, HI.out.2.1, HI.out.2.2⟩

/-- What was below the heap's end stays; the Posn lies there, and in its box. -/
structure Px (w : World) (g : Nat) (v0 v1 v2 v3 v4 v5 : Value) (p : P) (W : World) : Prop where
  below : Below w.heap.size w W
  pn : Pn W v0 v1 v2 v3 v4 v5 p
  c0 : W.cell? ⟨g, 0, none⟩ = some v0
  c1 : W.cell? ⟨g, 1, none⟩ = some v1
  c2 : W.cell? ⟨g, 2, none⟩ = some v2
  c3 : W.cell? ⟨g, 3, none⟩ = some v3
  c4 : W.cell? ⟨g, 4, none⟩ = some v4
  c5 : W.cell? ⟨g, 5, none⟩ = some v5
  lt : g < W.heap.size
theorem Px.next {w : World} {g : Nat} {v0 v1 v2 v3 v4 v5 : Value} {p : P} (W W' : World) (h : Px w g v0 v1 v2 v3 v4 v5 p W) (hb : Below W.heap.size W W') : Px w g v0 v1 v2 v3 v4 v5 p W' :=
  ⟨h.below.trans (hb.mono h.below.size), h.pn.below hb, (hb.cell (p := ⟨g, 0, none⟩) h.lt).trans h.c0, (hb.cell (p := ⟨g, 1, none⟩) h.lt).trans h.c1, (hb.cell (p := ⟨g, 2, none⟩) h.lt).trans h.c2, (hb.cell (p := ⟨g, 3, none⟩) h.lt).trans h.c3, (hb.cell (p := ⟨g, 4, none⟩) h.lt).trans h.c4, (hb.cell (p := ⟨g, 5, none⟩) h.lt).trans h.c5, Nat.lt_of_lt_of_le h.lt hb.size⟩
theorem Px.drew {w : World} {g : Nat} {v0 v1 v2 v3 v4 v5 : Value} {p : P} {W : World} (h : Px w g v0 v1 v2 v3 v4 v5 p W) : Px w g v0 v1 v2 v3 v4 v5 p W.drew :=
  h.next W W.drew ⟨rfl, rfl, rfl, Nat.le_refl _, fun _ _ => rfl⟩
theorem Px.box {w : World} {v0 v1 v2 v3 v4 v5 : Value} {p : P} (h : Pn w v0 v1 v2 v3 v4 v5 p) : Px w w.heap.size v0 v1 v2 v3 v4 v5 p (w.alloc (Obj.cells #[v0, v1, v2, v3, v4, v5] 28)) := by
  have B0 : Below w.heap.size w (w.alloc (Obj.cells #[v0, v1, v2, v3, v4, v5] 28)) := (Below.refl _ _).alloc (Nat.le_refl _) _
  exact ⟨B0, h.below B0, by simp, by simp, by simp, by simp, by simp, by simp, by simp⟩
end Go.Proofs.Ytgdaegmmapljgaa
