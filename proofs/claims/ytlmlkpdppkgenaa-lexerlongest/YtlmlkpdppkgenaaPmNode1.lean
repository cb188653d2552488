/-
  The contract of places.layNode: at nodes without Kids.
-/
import Derived.Test.YtlmlkpdppkgenaaPmNode0
namespace Go.Proofs.Ytlmlkpdppkgenaa
open Go.RowKit
open Cls Po Rex

theorem below_alloc1 (w : World) (o : Obj) : Below w.heap.size w (w.alloc o) := (Below.refl _ _).alloc (Nat.le_refl _) o
theorem results47 : Try.f74.results = #[.cell 6 137] := by kernel_rfl
/-- What layNode does at a tree. -/
def LNP (t : T) (x : Rex.E) : Prop := ∀ (base gp B : Nat) (v V : Nat → Value) (p : P) (ru : Int) (val : Value) (w : World), Pm base gp v V p w → Rx w B val t → B ≤ gp → Pm.Rdy p x.nodes →
  Calls Try.prog 74 #[.pointer (some ⟨gp, 0, none⟩), val, .int .i64 ru] w fun e w' => ∃ v' V' fo fn fc lo ln lc, e = .returned (.agg #[.slice fo fn fc, .slice lo ln lc, .bool (Pm.layX x ⟨p.cls, p.follow⟩).1.empty]) ∧
    NO base gp v V p.follow.length w (Pm.pos p (Pm.layX x ⟨p.cls, p.follow⟩).2 ru) v' V' (.slice fo fn fc) (.slice lo ln lc) (Pm.layX x ⟨p.cls, p.follow⟩).1.first (Pm.layX x ⟨p.cls, p.follow⟩).1.last w'
theorem no_fin {base gp : Nat} {v V v1 V1 : Nat → Value} {m : Nat} {w w2 : World} {p1 : P} {fv lv : Value} {f l : List Int} (hst : St base gp v V m w p1 v1 V1 w2) (hf : Rk gp v1 V1 p1.follow.length w.heap.size fv f w2) (hl : Rk gp v1 V1 p1.follow.length w.heap.size lv l w2) {g : Nat} (hg : ¬ Own gp v1 V1 p1.follow.length g) (hw : w.heap.size ≤ g) (hfg : fv.ownBlock ≠ some g) (hlg : lv.ownBlock ≠ some g) (a b c : Value) :
    NO base gp v V m w p1 v1 V1 fv lv f l (((w2.setCell ⟨g, 0, none⟩ a).setCell ⟨g, 1, none⟩ b).setCell ⟨g, 2, none⟩ c) :=
  ⟨hst.wrote (by rw [three_size]; exact Nat.le_refl _) rfl rfl rfl hg hw (fun q hq => three_other _ _ _ _ _ q hq), hf.wrote (by rw [three_size]; exact Nat.le_refl _) hfg (fun q hq => three_other _ _ _ _ _ q hq), hl.wrote (by rw [three_size]; exact Nat.le_refl _) hlg (fun q hq => three_other _ _ _ _ _ q hq)⟩
theorem own_lit1 (w : World) (n : Int) : (w.alloc (Obj.cells #[.int .i64 n] 3)).ownsRow w.heap.size 3 1 (.slice (some ⟨w.heap.size, 0, none⟩) 1 1) ([n] : List Int).length (([n] : List Int).map (Value.int .i64)) :=
  ⟨rfl, Or.inr ⟨w.heap.size, 1, #[.int .i64 n], rfl, Nat.le_refl _, heap_new w _, by simp, by unfold maxLen; omega, rfl, rfl⟩⟩
set_option maxHeartbeats 4000000 in
set_option maxRecDepth 20000 in
theorem ln_none : LNP (.mk 1 Cls.empty []) .none := by
  intro base gp B v V p ru val w hP hx hB hR
  obtain ⟨k', c, ao, cap, kids, vals, rfl, ht, -⟩ := hx.shape
  simp only [T.mk.injEq] at ht
  obtain ⟨rfl, rfl, rfl⟩ := ht
  have HNO : Hid (∀ w', Below w.heap.size w w' → NO base gp v V p.follow.length w (Pm.pos p ⟨p.cls, p.follow⟩ ru) v V (.slice none 0 0) (.slice none 0 0) [] [] w') := fun w' hb => by
    rw [Pm.pos_same]
    exact ⟨(St.refl hP).next hb, Rk.nil _ _ _ _ _ _, Rk.nil _ _ _ _ _ _⟩
  show Calls _ _ _ _ fun e w' => ∃ v' V' fo fn fc lo ln lc, e = .returned (.agg #[.slice fo fn fc, .slice lo ln lc, .bool false]) ∧ NO base gp v V p.follow.length w (Pm.pos p ⟨p.cls, p.follow⟩ ru) v' V' (.slice fo fn fc) (.slice lo ln lc) [] [] w'
  clear hP hR hx
  go_enter Try.func74, Try.ntmps74
  go_wp2_with fail
  refine bodyPost_ret (v := .agg #[.slice none 0 0, .slice none 0 0, .bool false]) (results_cell_row results47 _ _ (w.heap.size + 1) 137 #[.slice none 0 0, .slice none 0 0, .bool false] (0, 0) _ rfl (new_at _ _ (by simp)) Try.underlying137 rfl (by kernel_rfl)) rfl ⟨v, V, none, 0, 0, none, 0, 0, rfl, HNO.out _ ?_⟩
  exact ((Below.refl _ w).alloc (Nat.le_refl _) _).alloc (by simp) _
set_option maxHeartbeats 4000000 in
set_option maxRecDepth 20000 in
theorem ln_emp : LNP (.mk 2 Cls.empty []) .emp := by
  intro base gp B v V p ru val w hP hx hB hR
  obtain ⟨k', c, ao, cap, kids, vals, rfl, ht, -⟩ := hx.shape
  simp only [T.mk.injEq] at ht
  obtain ⟨rfl, rfl, rfl⟩ := ht
  have HNO : Hid (∀ w', Below w.heap.size w w' → NO base gp v V p.follow.length w (Pm.pos p ⟨p.cls, p.follow⟩ ru) v V (.slice none 0 0) (.slice none 0 0) [] [] w') := fun w' hb => by
    rw [Pm.pos_same]
    exact ⟨(St.refl hP).next hb, Rk.nil _ _ _ _ _ _, Rk.nil _ _ _ _ _ _⟩
  show Calls _ _ _ _ fun e w' => ∃ v' V' fo fn fc lo ln lc, e = .returned (.agg #[.slice fo fn fc, .slice lo ln lc, .bool true]) ∧ NO base gp v V p.follow.length w (Pm.pos p ⟨p.cls, p.follow⟩ ru) v' V' (.slice fo fn fc) (.slice lo ln lc) [] [] w'
  clear hP hR hx
  go_enter Try.func74, Try.ntmps74
  go_wp2_with fail
  refine bodyPost_ret (v := .agg #[.slice none 0 0, .slice none 0 0, .bool true]) (results_cell_row results47 _ _ (w.heap.size + 1) 137 #[.slice none 0 0, .slice none 0 0, .bool true] (0, 0) _ rfl (new_at _ _ (by simp)) Try.underlying137 rfl (by kernel_rfl)) rfl ⟨v, V, none, 0, 0, none, 0, 0, rfl, HNO.out _ ?_⟩
  exact ((Below.refl _ w).alloc (Nat.le_refl _) _).alloc (by simp) _
set_option maxHeartbeats 4000000 in
set_option maxRecDepth 20000 in
theorem ln_byte {c : Cl} : LNP (.mk 3 c []) (.byte c) := by
  intro base gp B v V p ru val w hP hx hB hR
  obtain ⟨k', c', ao, cap, kids, vals, rfl, ht, -⟩ := hx.shape
  simp only [T.mk.injEq] at ht
  obtain ⟨rfl, rfl, rfl⟩ := ht
  have hb0 := ((Below.refl w.heap.size w).alloc (Nat.le_refl _) (Obj.cells #[.int .i64 3, .int .u64 (c.1.toNat : Int), .int .u64 (c.2.1.toNat : Int), .int .u64 (c.2.2.1.toNat : Int), .int .u64 (c.2.2.2.toNat : Int), .slice ao 0 cap] 44)).alloc (by simp) (Obj.cells #[.slice none 0 0, .slice none 0 0, .bool false] 137)
  have hg6 : ((w.alloc (Obj.cells #[.int .i64 3, .int .u64 (c.1.toNat : Int), .int .u64 (c.2.1.toNat : Int), .int .u64 (c.2.2.1.toNat : Int), .int .u64 (c.2.2.2.toNat : Int), .slice ao 0 cap] 44)).alloc (Obj.cells #[.slice none 0 0, .slice none 0 0, .bool false] 137)).heap[w.heap.size + 1]? = some (.cells #[.slice none 0 0, .slice none 0 0, .bool false] 137) := new_at _ _ (by simp)
  have hsz0 : ((w.alloc (Obj.cells #[.int .i64 3, .int .u64 (c.1.toNat : Int), .int .u64 (c.2.1.toNat : Int), .int .u64 (c.2.2.1.toNat : Int), .int .u64 (c.2.2.2.toNat : Int), .slice ao 0 cap] 44)).alloc (Obj.cells #[.slice none 0 0, .slice none 0 0, .bool false] 137)).heap.size = w.heap.size + 1 + 1 := by simp
  obtain ⟨w0, HW0⟩ : ∃ w0, Hid ((w.alloc (Obj.cells #[.int .i64 3, .int .u64 (c.1.toNat : Int), .int .u64 (c.2.1.toNat : Int), .int .u64 (c.2.2.1.toNat : Int), .int .u64 (c.2.2.2.toNat : Int), .slice ao 0 cap] 44)).alloc (Obj.cells #[.slice none 0 0, .slice none 0 0, .bool false] 137) = w0) := ⟨_, (rfl : _ = _)⟩
  rw [HW0.out] at hb0 hg6 hsz0
  have HST0 : Hid (St base gp v V p.follow.length w p v V w0) := (St.refl hP).next hb0
  have HG6 : Hid (w0.heap[w.heap.size + 1]? = some (.cells #[.slice none 0 0, .slice none 0 0, .bool false] 137) ∧ w0.heap.size = w.heap.size + 1 + 1) := ⟨hg6, hsz0⟩
  have HNG : Hid (¬ Own gp v V p.follow.length (w.heap.size + 1)) := fun ho => by have := hP.own_lt ho; omega
  have hcall := layPlace_any base gp v V p c ru w0 HST0.out.pm (fun f hf => by
    have h1 := hR.room; have h2 := hR.ok; have h3 := hR.ru; have h4 := hR.la; have h5 := hR.fi; have h6 := hR.em
    unfold Pm.Ok at h2
    simp only [Rex.E.nodes] at h1 h2
    have : f = 0 ∨ f = 1 ∨ f = 2 ∨ f = 3 ∨ f = 4 ∨ f = 5 := by omega
    rcases this with rfl | rfl | rfl | rfl | rfl | rfl <;> simp only [lenP] <;> omega)
  have HRU : Hid (Pm.pos p (Pm.layX (.byte c) ⟨p.cls, p.follow⟩).2 ru = (⟨p.cls ++ [c], p.rules ++ [ru], p.first, p.follow ++ [[]], p.last ++ [false], p.empty⟩ : P)) := by
    show _ = _
    simp [Pm.pos, Pm.layX]
  rw [HRU.out]
  show Calls _ _ _ _ fun e w' => ∃ v' V' fo fn fc lo ln lc, e = .returned (.agg #[.slice fo fn fc, .slice lo ln lc, .bool false]) ∧ NO base gp v V p.follow.length w (⟨p.cls ++ [c], p.rules ++ [ru], p.first, p.follow ++ [[]], p.last ++ [false], p.empty⟩ : P) v' V' (.slice fo fn fc) (.slice lo ln lc) [(p.cls.length : Int)] [(p.cls.length : Int)] w'
  obtain ⟨n, HN⟩ : ∃ n : Nat, Hid (p.cls.length = n) := ⟨_, (rfl : p.cls.length = p.cls.length)⟩
  rw [HN.out] at hcall
  rw [HN.out]
  clear hP hR hx hb0 hg6 hsz0 HRU
  go_enter Try.func74, Try.ntmps74
  go_wp2_with fail
  rw [HW0.out]
  refine hcall.mono ?_
  rintro _ w1 ⟨v1, V1, rfl, hp1, hf1, ho1⟩
  have hst1 : St base gp v V p.follow.length w _ v1 V1 w1 := HST0.out.trans ⟨hp1, hf1, ho1⟩
  have hblk : w1.heap[w.heap.size + 1]? = some (.cells #[.slice none 0 0, .slice none 0 0, .bool false] 137) := (hf1.blk (w.heap.size + 1) (by rw [HG6.out.2]; omega) HNG.out).trans HG6.out.1
  have hs1 : w.heap.size + 1 + 1 ≤ w1.heap.size := by have := hf1.size; rw [HG6.out.2] at this; exact this
  have hb2 := ((Below.refl w1.heap.size w1).alloc (Nat.le_refl _) (Obj.cells #[.int .i64 (n : Int)] 3)).alloc (by simp) (Obj.cells #[.int .i64 (n : Int)] 3)
  have hr1 := (own_lit1 w1 (n : Int)).alloc (Obj.cells #[.int .i64 (n : Int)] 3)
  have hr2 := own_lit1 (w1.alloc (Obj.cells #[.int .i64 (n : Int)] 3)) (n : Int)
  have hsz1 : (w1.alloc (Obj.cells #[.int .i64 (n : Int)] 3)).heap.size = w1.heap.size + 1 := by simp
  have hpa := hst1.pm.next (below_alloc1 w1 (Obj.cells #[.int .i64 (n : Int)] 3))
  have hk1 := Rk.new hst1.pm hr1 (by simp)
  have hk2 := Rk.new hpa hr2 (by simp)
  rw [hsz1] at hk2
  have hblk2 := (hb2.block (w.heap.size + 1) (by omega)).trans hblk
  obtain ⟨z0, z1, z2, zf⟩ := cells3 hblk2
  have HFIN : Hid (NO base gp v V p.follow.length w _ v1 V1 (.slice (some ⟨w1.heap.size, 0, none⟩) 1 1) (.slice (some ⟨w1.heap.size + 1, 0, none⟩) 1 1) [(n : Int)] [(n : Int)] (((((w1.alloc (Obj.cells #[.int .i64 (n : Int)] 3)).alloc (Obj.cells #[.int .i64 (n : Int)] 3)).setCell ⟨w.heap.size + 1, 0, none⟩ (.slice (some ⟨w1.heap.size, 0, none⟩) 1 1)).setCell ⟨w.heap.size + 1, 1, none⟩ (.slice (some ⟨w1.heap.size + 1, 0, none⟩) 1 1)).setCell ⟨w.heap.size + 1, 2, none⟩ (.bool false))) :=
    no_fin (hst1.next hb2) (hk1.less (by omega)) (hk2.less (by omega)) (fun ho => (ho1 _ ho).elim HNG.out (fun h2 => by rw [HG6.out.2] at h2; omega)) (by omega) (by simp [Value.ownBlock]; omega) (by simp [Value.ownBlock]; omega) _ _ _
  have HB2 : Hid (((w1.alloc (Obj.cells #[.int .i64 (n : Int)] 3)).alloc (Obj.cells #[.int .i64 (n : Int)] 3)).heap[w.heap.size + 1]? = some (.cells #[.slice none 0 0, .slice none 0 0, .bool false] 137)) := hblk2
  clear hp1 hf1 ho1 hst1 hblk hb2 hr1 hr2 hpa hk1 hk2 hblk2 hcall hsz1
  go_wp2_with fail
  refine bodyPost_ret (v := .agg #[.slice (some ⟨w1.heap.size, 0, none⟩) 1 1, .slice (some ⟨w1.heap.size + 1, 0, none⟩) 1 1, .bool false]) (results_cell_row results47 _ _ (w.heap.size + 1) 137 #[.slice (some ⟨w1.heap.size, 0, none⟩) 1 1, .slice (some ⟨w1.heap.size + 1, 0, none⟩) 1 1, .bool false] (0, 0) _ rfl (three HB2.out _ _ _) Try.underlying137 rfl (by kernel_rfl)) rfl ⟨v1, V1, _, _, _, _, _, _, rfl, HFIN.out⟩
end Go.Proofs.Ytlmlkpdppkgenaa
