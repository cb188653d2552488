/-
  The contract of small.Unpack. The contract of lexer.One. What lexer.Lex answers of pushkeep.abc; tokens stand one behind the other. What the longest match is: a token's own text has its rule as Tag, no longer one has any; what lexer.One answers of pushkeep.abc.
-/
import Derived.Test.YtlmlkpdppkgenaaWKb
import Derived.Test.YtlmlkpdppkgenaaWKc
import Derived.Deep.Cut
import Derived.Test.YtlmlkpdppkgenaaWAb
namespace Go.Proofs.Ytlmlkpdppkgenaa.Pk
open Go.RowKit
open Dfa

structure RU (w : World) (O : Nat → Nat) (b o cap b2 o2 cap2 n : Nat) (L : Nat → Nat) (X : Nat → Nat → Int) (T : Nat → Int) (l : List Value) (gr : Nat) (gt : Nat) (ct : Nat) (gd : Nat) (d : Nat → Bool) (x5 x16 x17 x18 x19 x20 x21 x22 x23 : Value) (W : World) : Prop where
  f0 : d 0 = true → x16 = (.pointer (some ⟨w.heap.size, 256, none⟩))
  f1 : d 1 = true → x17 = (.slice (some ⟨b, o, none⟩) n cap)
  f2 : d 2 = true → x18 = (.int .i64 (n : Int))
  f3 : d 3 = true → x19 = (.slice (some ⟨gr, 0, none⟩) n n)
  f4 : d 4 = true → x20 = (.pointer (some ⟨w.heap.size, 257, none⟩))
  f5 : d 5 = true → x21 = (.slice (some ⟨b2, o2, none⟩) n cap2)
  f6 : d 6 = true → x22 = (.slice (some ⟨gt, 0, none⟩) n ct)
  f7 : d 7 = true → x23 = (.agg #[.slice (some ⟨gr, 0, none⟩) n n, .slice (some ⟨gt, 0, none⟩) n ct])
  f8 : d 8 = true → x5 = (.pointer (some ⟨gd, 0, none⟩))
  f9 : d 9 = true → True
  o73 : d 7 = true → d 3 = true
  o76 : d 7 = true → d 6 = true
  o93 : d 9 = true → d 3 = true
  o96 : d 9 = true → d 6 = true
  o98 : d 9 = true → d 8 = true
  px : Px w w.heap.size O (.slice (some ⟨b, o, none⟩) n cap) (.slice (some ⟨b2, o2, none⟩) n cap2) n n L X T l W
  sz : w.heap.size + 2 ≤ W.heap.size
  mr : d 3 = true → w.heap.size + 2 ≤ gr ∧ W.rowIs gr 72 (n * 256) (fun _ => .int .i16 0)
  cl : d 6 = true → w.heap.size + 2 ≤ gt ∧ gt < W.heap.size ∧ ∀ i, i < n → W.cell? ⟨gt, i, none⟩ = some (.int .i64 (T i))
  al : d 8 = true → d 9 = false → w.heap.size + 2 ≤ gd ∧ gd < W.heap.size ∧ W.rowIs gd 30 2 (fun _ => Value.slice none 0 0)
  st : d 9 = true → w.heap.size + 2 ≤ gd ∧ gd < W.heap.size ∧ W.rowIs gd 30 2 (fun i => if i = 0 then Value.slice (some ⟨gr, 0, none⟩) n n else Value.slice (some ⟨gt, 0, none⟩) n ct)
  n36 : d 3 = true → d 6 = true → gr ≠ gt
  n38 : d 3 = true → d 8 = true → gr ≠ gd
  n68 : d 6 = true → d 8 = true → gt ≠ gd
  rs : W.rowIs (w.heap.size + 1) 30 2 (fun _ => Value.slice none 0 0)

structure RV (wr : World) (gd gr n k j bk ok lk cp1 oj : Nat) (z : Int) (d : Nat → Bool) (x38 x39 x40 x41 x42 x43 x44 x45 x46 x47 x48 : Value) (W : World) : Prop where
  f0 : d 0 = true → x38 = (.pointer (some ⟨gd, 0, none⟩))
  f1 : d 1 = true → x39 = (.slice (some ⟨gr, 0, none⟩) n n)
  f2 : d 2 = true → x40 = (.int .i64 (k : Int))
  f3 : d 3 = true → x41 = (.int .i64 (j : Int))
  f4 : d 4 = true → x42 = (.slice (some ⟨bk, ok, none⟩) lk cp1)
  f5 : d 5 = true → x43 = (.int .u8 (oj : Int))
  f6 : d 6 = true → x44 = (.pointer (some ⟨bk, ok + oj, none⟩))
  f7 : d 7 = true → x45 = (.int .i64 z)
  f8 : d 8 = true → x46 = (.int .i16 z)
  f9 : d 9 = true → x47 = (.pointer (some ⟨gr, k * 256, none⟩))
  f10 : d 10 = true → x48 = (.pointer (some ⟨gr, k * 256 + j, none⟩))
  f11 : d 11 = true → True
  p0 : d 11 = true → d 0 = true
  p1 : d 11 = true → d 1 = true
  p2 : d 11 = true → d 2 = true
  p3 : d 11 = true → d 3 = true
  p4 : d 11 = true → d 4 = true
  p5 : d 11 = true → d 5 = true
  p6 : d 11 = true → d 6 = true
  p7 : d 11 = true → d 7 = true
  p8 : d 11 = true → d 8 = true
  p9 : d 11 = true → d 9 = true
  p10 : d 11 = true → d 10 = true
  q : d 10 = true → d 9 = true
  sm : d 11 = false → Sm wr W
  fin : d 11 = true → ∃ W6, Sm wr W6 ∧ W = W6.setCell ⟨gr, k * 256 + j, none⟩ (.int .i16 z)

/-- What is held while the rows are filled. -/
structure Un (w : World) (O : Nat → Nat) (b o cap b2 o2 cap2 n : Nat) (L : Nat → Nat) (X : Nat → Nat → Int) (T : Nat → Int) (l : List Value) (gr gt ct gd : Nat) (F : Nat → Nat → Int) (W : World) : Prop where
  px : Px w w.heap.size O (.slice (some ⟨b, o, none⟩) n cap) (.slice (some ⟨b2, o2, none⟩) n cap2) n n L X T l W
  rows : W.rowIs gr 72 (n * 256) (fun q => .int .i16 (F (q / 256) (q % 256)))
  tags : ∀ i, i < n → W.cell? ⟨gt, i, none⟩ = some (.int .i64 (T i))
  st : W.rowIs gd 30 2 (fun i => if i = 0 then Value.slice (some ⟨gr, 0, none⟩) n n else Value.slice (some ⟨gt, 0, none⟩) n ct)
  rs : W.rowIs (w.heap.size + 1) 30 2 (fun _ => Value.slice none 0 0)
  lt : gt < W.heap.size
theorem Un.set {w : World} {O : Nat → Nat} {b o cap b2 o2 cap2 n : Nat} {L : Nat → Nat} {X : Nat → Nat → Int} {T : Nat → Int} {l : List Value} {gr gt ct gd : Nat} {F : Nat → Nat → Int} {W W' : World} (h : Un w O b o cap b2 o2 cap2 n L X T l gr gt ct gd F W) (hx : Nx w (.slice (some ⟨b, o, none⟩) n cap) n L X) (ht : Ts w (.slice (some ⟨b2, o2, none⟩) n cap2) n T)
    (hg : w.heap.size + 2 ≤ gr ∧ gr ≠ gt ∧ gr ≠ gd) (hs : Sm W W') (i j : Nat) (z : Int) (hj : j < 256) : Un w O b o cap b2 o2 cap2 n L X T l gr gt ct gd (fun x y => if x = i ∧ y = j then z else F x y) (W'.setCell ⟨gr, i * 256 + j, none⟩ (.int .i16 z)) := by
  have e : ∀ k, k ≠ gr → (W'.setCell ⟨gr, i * 256 + j, none⟩ (.int .i16 z)).heap[k]? = W.heap[k]? := fun k hk => by rw [Below.heap_setCell _ _ _ _ (by simpa using hk), hs.heap]
  have hrow : W'.rowIs gr 72 (n * 256) (fun q => .int .i16 (F (q / 256) (q % 256))) := h.rows.of_block (by rw [hs.heap])
  refine ⟨h.px.set hx ht (b := gr) ⟨by simp [World.setCell, hs.heap], hs.os, hs.tape, hs.output, e⟩ (by omega) (by omega), (hrow.set (i * 256 + j) (.int .i16 z)).congr fun q hq => ?_, fun k hk => (cell_same (e gt (by omega)) k).trans (h.tags k hk), h.st.of_block (e gd (by omega)), h.rs.of_block (e _ (by omega)), by simp only [World.setCell, Array.size_modify]; rw [hs.heap]; exact h.lt⟩
  by_cases hq2 : q = i * 256 + j
  · subst hq2
    have e1 : (i * 256 + j) / 256 = i := by omega
    have e2 : (i * 256 + j) % 256 = j := by omega
    simp [e1, e2]
  · have e3 : ¬ (q / 256 = i ∧ q % 256 = j) := by omega
    simp [hq2, e3]
set_option maxHeartbeats 4000000 in
set_option maxRecDepth 20000 in
theorem unpack_bad (O : Nat → Nat) (nv tv : Value) (n m : Nat) (L : Nat → Nat) (X : Nat → Nat → Int) (T : Nat → Int) (w : World) (hO : ∀ j, O j < 256) (hx : Nx w nv n L X) (ht : Ts w tv m T) (hok : ¬ chkP n m O L X T = 0) :
    Calls Try.prog 21 #[.agg (pl O nv tv).toArray] w fun e w' => e = .returned (.tuple #[.agg #[.slice none 0 0, .slice none 0 0], .int .i64 (chkP n m O L X T)]) ∧ Below w.heap.size w w' := by
  obtain ⟨l, HLL⟩ : ∃ l, Hid (pl O nv tv = l) := ⟨_, (rfl : pl O nv tv = pl O nv tv)⟩
  have HP : Hid (Px w w.heap.size O nv tv n m L X T l (w.alloc (Obj.cells l.toArray 54))) := Px.box HLL.out hx ht
  have B1 := (Below.refl (w.alloc (Obj.cells l.toArray 54)).heap.size (w.alloc (Obj.cells l.toArray 54))).alloc (Nat.le_refl _) (Obj.cells #[Value.slice none 0 0, Value.slice none 0 0] 30)
  have HP2 := HP.out.step B1
  have HA : Hid (((w.alloc (Obj.cells l.toArray 54)).alloc (Obj.cells #[Value.slice none 0 0, Value.slice none 0 0] 30)).rangeAt w.heap.size 0 l ∧ (Try.prog.info? 54).map (·.size) = some l.length) := ⟨by have := HP2.all; rwa [HLL.out] at this, by rw [← HLL.out, pl_length]; exact size47⟩
  have HCK := checkP_any O nv tv n m L X T _ hO HP2.next HP2.tags
  obtain ⟨c, HC⟩ : ∃ c, Hid (chkP n m O L X T = c) := ⟨_, (rfl : chkP n m O L X T = chkP n m O L X T)⟩
  rw [HC.out] at hok HCK
  rw [HLL.out] at HCK ⊢
  have HK : Hid (Calls Try.prog 46 #[.agg l.toArray] ((w.alloc (Obj.cells l.toArray 54)).alloc (Obj.cells #[Value.slice none 0 0, Value.slice none 0 0] 30)) fun e w' => e = .returned (.int .i64 c) ∧ Below ((w.alloc (Obj.cells l.toArray 54)).alloc (Obj.cells #[Value.slice none 0 0, Value.slice none 0 0] 30)).heap.size ((w.alloc (Obj.cells l.toArray 54)).alloc (Obj.cells #[Value.slice none 0 0, Value.slice none 0 0] 30)) w') := HCK
  have hb0 : (c != 0) = true := by simp; exact hok
  rw [HC.out]
  clear hO HCK HP2 B1 hx ht hok
  go_enter Try.func21, Try.ntmps21
  go_wp2_with (refine wpList_load_mid rfl 54 _ rfl w.heap.size 0 rfl l _ HA.out.1 Try.underlying54 rfl HA.out.2 ?_)
  refine HK.out.mono ?_
  rintro _ w1 ⟨rfl, hb⟩
  have B2 : Below w.heap.size w w1 := (HP.out.below.alloc HP.out.below.size _).trans (hb.mono (by simp; omega))
  have c0 : w1.cell? ⟨w.heap.size + 1, 0, none⟩ = some (.slice none 0 0) := (hb.cell (by simp)).trans (by simp)
  have c1 : w1.cell? ⟨w.heap.size + 1, 1, none⟩ = some (.slice none 0 0) := (hb.cell (by simp)).trans (by simp)
  have f0 : w1.frozen? ⟨w.heap.size + 1, 0, none⟩ = false := (hb.frozen (by simp)).trans (by simp)
  have f1 : w1.frozen? ⟨w.heap.size + 1, 1, none⟩ = false := (hb.frozen (by simp)).trans (by simp)
  have HR1 : Hid (w1.rowIs (w.heap.size + 1) 30 2 (fun i => if i = 0 then .slice none 0 0 else .slice none 0 0)) := by
    have h2 := row_two (w.alloc (Obj.cells l.toArray 54)) (.slice none 0 0) (.slice none 0 0)
    have h3 := h2.of_block (hb.block _ h2.lt)
    have e : (w.alloc (Obj.cells l.toArray 54)).heap.size = w.heap.size + 1 := by simp
    rw [e] at h3
    exact h3
  clear hb HK HA
  go_wp2_with fail
  have hbx : Below w.heap.size w ((w1.setCell ⟨w.heap.size + 1, 0, none⟩ (.slice none 0 0)).setCell ⟨w.heap.size + 1, 1, none⟩ (.slice none 0 0)) := (B2.setCell (by simp) _).setCell (by simp) _
  have hrow := row_two_set HR1.out (.slice none 0 0) (.slice none 0 0)
  have hc0 := hrow.cell (i := 0) (by omega)
  have hc1 := hrow.cell (i := 1) (by omega)
  simp only [if_true] at hc0
  rw [if_neg (by omega)] at hc1
  exact bodyPost_ret (v := .tuple #[.agg #[.slice none 0 0, .slice none 0 0], .int .i64 c]) (by simp [results, Try.results21, go_sem, hc0, hc1]) rfl ⟨rfl, hbx⟩

set_option maxHeartbeats 8000000 in
set_option maxRecDepth 20000 in
theorem unpack_own (O : Nat → Nat) (nv tv : Value) (n : Nat) (L : Nat → Nat) (X : Nat → Nat → Int) (T : Nat → Int) (w : World) (hO : ∀ j, O j < 256) (hx : Nx w nv n L X) (ht : Ts w tv n T) (hok : chkP n n O L X T = 0) :
    Calls Try.prog 21 #[.agg (pl O nv tv).toArray] w fun e w' => ∃ rv tv', e = .returned (.tuple #[.agg #[rv, tv'], .int .i64 0]) ∧ Rw w' rv n (fun i j => if i < n ∧ j < 256 then X i (O j) else 0) ∧ Ts w' tv' n T ∧ Below w.heap.size w w' ∧ (∀ g, rv.ownBlock = some g → w.heap.size ≤ g) ∧ (∀ g, tv'.ownBlock = some g → w.heap.size ≤ g) := by
  obtain ⟨hn0, hn1, -, hcols, hsts, htgs⟩ := chkP_zero hok
  obtain ⟨ao, cap, rfl, hn, hxc⟩ := id hx
  obtain ⟨ao', cap2, rfl, hm, hwf, htc⟩ := id ht
  obtain ⟨b, o, rfl, -⟩ := hxc.resolve_left (by omega)
  obtain ⟨b2, o2, rfl, -⟩ := htc.resolve_left (by omega)
  have HN : Hid (0 < n ∧ n ≤ 200) := ⟨hn0, hn1⟩
  have HX0 : Hid (Nx w (.slice (some ⟨b, o, none⟩) n cap) n L X) := hx
  have HT0 : Hid (Ts w (.slice (some ⟨b2, o2, none⟩) n cap2) n T) := ht
  have HWF : Hid (∀ i, -9223372036854775808 ≤ T i ∧ T i ≤ 9223372036854775807) := hwf
  have HCO : Hid (∀ i j, i < n → j < 256 → L i = L 0 ∧ O j < L i ∧ -1 ≤ X i (O j) ∧ X i (O j) ≤ (n : Int) - 1) := fun i j hi hj => by
    obtain ⟨g1, g2, g3⟩ := cols_at hcols
    have h2 : O j < L i := by rw [g1 i hi]; exact g3 j hj
    exact ⟨g1 i hi, h2, states_at hsts i (O j) hi h2⟩
  have HO : Hid (∀ j, O j < 256) := hO
  obtain ⟨l, HLL⟩ : ∃ l, Hid (pl O (.slice (some ⟨b, o, none⟩) n cap) (.slice (some ⟨b2, o2, none⟩) n cap2) = l) := ⟨_, (rfl : pl O _ _ = pl O _ _)⟩
  have HP : Hid (Px w w.heap.size O (.slice (some ⟨b, o, none⟩) n cap) (.slice (some ⟨b2, o2, none⟩) n cap2) n n L X T l (w.alloc (Obj.cells l.toArray 54))) := Px.box HLL.out hx ht
  have B1 := (Below.refl (w.alloc (Obj.cells l.toArray 54)).heap.size (w.alloc (Obj.cells l.toArray 54))).alloc (Nat.le_refl _) (Obj.cells #[Value.slice none 0 0, Value.slice none 0 0] 30)
  have HP2 := HP.out.step B1
  have HA : Hid (((w.alloc (Obj.cells l.toArray 54)).alloc (Obj.cells #[Value.slice none 0 0, Value.slice none 0 0] 30)).rangeAt w.heap.size 0 l ∧ (Try.prog.info? 54).map (·.size) = some l.length) := ⟨by have := HP2.all; rwa [HLL.out] at this, by rw [← HLL.out, pl_length]; exact size47⟩
  have HCK := checkP_any O _ _ n n L X T _ hO HP2.next HP2.tags
  rw [hok, HLL.out] at HCK
  rw [HLL.out]
  have HK : Hid (Calls Try.prog 46 #[.agg l.toArray] ((w.alloc (Obj.cells l.toArray 54)).alloc (Obj.cells #[Value.slice none 0 0, Value.slice none 0 0] 30)) fun e w' => e = .returned (.int .i64 0) ∧ Below ((w.alloc (Obj.cells l.toArray 54)).alloc (Obj.cells #[Value.slice none 0 0, Value.slice none 0 0] 30)).heap.size ((w.alloc (Obj.cells l.toArray 54)).alloc (Obj.cells #[Value.slice none 0 0, Value.slice none 0 0] 30)) w') := HCK
  clear hO HCK hx ht hok hwf hcols hsts htgs HLL hn0 hn1 hxc htc
  have HP3 : Hid (Px w w.heap.size O (.slice (some ⟨b, o, none⟩) n cap) (.slice (some ⟨b2, o2, none⟩) n cap2) n n L X T l ((w.alloc (Obj.cells l.toArray 54)).alloc (Obj.cells #[Value.slice none 0 0, Value.slice none 0 0] 30))) := HP2
  clear HP2 B1 HP
  go_enter Try.func21, Try.ntmps21
  go_wp2_with (refine wpList_load_mid rfl 54 _ rfl w.heap.size 0 rfl l _ HA.out.1 Try.underlying54 rfl HA.out.2 ?_)
  refine HK.out.mono ?_
  rintro _ w1 ⟨rfl, hb⟩
  have HP1 : Hid (Px w w.heap.size O (.slice (some ⟨b, o, none⟩) n cap) (.slice (some ⟨b2, o2, none⟩) n cap2) n n L X T l w1 ∧ w.heap.size + 2 ≤ w1.heap.size ∧ w1.rowIs (w.heap.size + 1) 30 2 (fun _ => Value.slice none 0 0)) := by
    refine ⟨HP3.out.step hb, by have := hb.size; simpa using this, ?_⟩
    have h2 := row_two (w.alloc (Obj.cells l.toArray 54)) (.slice none 0 0) (.slice none 0 0)
    have h3 := h2.of_block (hb.block _ h2.lt)
    have e : (w.alloc (Obj.cells l.toArray 54)).heap.size = w.heap.size + 1 := by simp
    rw [e] at h3
    exact h3.congr fun i _ => by split <;> rfl
  clear hb HK HA HP3
  go_wp2_with fail
  refine wp_region_free mixed (fun a0 d a W => ∃ (gr : Nat) (gt : Nat) (ct : Nat) (gd : Nat) (x5 x16 x17 x18 x19 x20 x21 x22 x23 : Value), a = (((((((((a0.put (some 5) x5).put (some 16) x16).put (some 17) x17).put (some 18) x18).put (some 19) x19).put (some 20) x20).put (some 21) x21).put (some 22) x22).put (some 23) x23) ∧ Hid (RU w O b o cap b2 o2 cap2 n L X T l gr gt ct gd d x5 x16 x17 x18 x19 x20 x21 x22 x23 W)) (by kernel_rfl) ⟨0, 0, 0, 0, undef, undef, undef, undef, undef, undef, undef, undef, undef, by simp only [Act.put, List.setIfInBounds_toArray, List.set_cons_zero, List.set_cons_succ], ?_⟩ ?_ ?_
  · exact ⟨fun h => no_way h, fun h => no_way h, fun h => no_way h, fun h => no_way h, fun h => no_way h, fun h => no_way h, fun h => no_way h, fun h => no_way h, fun h => no_way h, fun _ => trivial, fun h => no_way h, fun h => no_way h, fun h => no_way h, fun h => no_way h, fun h => no_way h, HP1.out.1.step (Below.refl _ _).drew, HP1.out.2.1, fun h => no_way h, fun h => no_way h, fun h => no_way h, fun h => no_way h, fun h => no_way h, fun h => no_way h, fun h => no_way h, HP1.out.2.2⟩
  · simp only [StepAll, and_true]
    refine ⟨?_, ?_, ?_, ?_, ?_, ?_, ?_, ?_, ?_, ?_⟩
    · intro d a W hI hd hdep
      obtain ⟨gr, gt, ct, gd, x5, x16, x17, x18, x19, x20, x21, x22, x23, rfl, hF⟩ := hI
      clear hdep hd
      intro K hK
      simp only [Act.put, List.setIfInBounds_toArray, List.set_cons_zero, List.set_cons_succ]
      go_simp
      refine hK.out _ _ ⟨gr, gt, ct, gd, x5, (.pointer (some ⟨w.heap.size, 256, none⟩)), x17, x18, x19, x20, x21, x22, x23, by simp only [Act.put, List.setIfInBounds_toArray, List.set_cons_zero, List.set_cons_succ], ?_⟩
      exact ⟨fun _ => rfl, fun h => hF.out.f1 (by simpa using h), fun h => hF.out.f2 (by simpa using h), fun h => hF.out.f3 (by simpa using h), fun h => hF.out.f4 (by simpa using h), fun h => hF.out.f5 (by simpa using h), fun h => hF.out.f6 (by simpa using h), fun h => hF.out.f7 (by simpa using h), fun h => hF.out.f8 (by simpa using h), fun h => hF.out.f9 (by simpa using h), fun h => by have := hF.out.o73 (by simpa using h); simpa using this, fun h => by have := hF.out.o76 (by simpa using h); simpa using this, fun h => by have := hF.out.o93 (by simpa using h); simpa using this, fun h => by have := hF.out.o96 (by simpa using h); simpa using this, fun h => by have := hF.out.o98 (by simpa using h); simpa using this, hF.out.px, hF.out.sz, fun h => hF.out.mr (by simpa using h), fun h => hF.out.cl (by simpa using h), fun h h2 => hF.out.al (by simpa using h) (by simpa using h2), fun h => hF.out.st (by simpa using h), fun h k => hF.out.n36 (by simpa using h) (by simpa using k), fun h k => hF.out.n38 (by simpa using h) (by simpa using k), fun h k => hF.out.n68 (by simpa using h) (by simpa using k), hF.out.rs⟩
    · intro d a W hI hd hdep
      obtain ⟨gr, gt, ct, gd, x5, x16, x17, x18, x19, x20, x21, x22, x23, rfl, hF⟩ := hI
      have hd0 : d 0 = true := dep_of hdep 0 (by kernel_rfl)
      obtain rfl := hF.out.f0 hd0
      have y0 := hF.out.px.c1
      clear hdep hd hd0
      intro K hK
      simp only [Act.put, List.setIfInBounds_toArray, List.set_cons_zero, List.set_cons_succ]
      go_simp
      refine hK.out _ _ ⟨gr, gt, ct, gd, x5, (.pointer (some ⟨w.heap.size, 256, none⟩)), (.slice (some ⟨b, o, none⟩) n cap), x18, x19, x20, x21, x22, x23, by simp only [Act.put, List.setIfInBounds_toArray, List.set_cons_zero, List.set_cons_succ], ?_⟩
      exact ⟨fun h => hF.out.f0 (by simpa using h), fun _ => rfl, fun h => hF.out.f2 (by simpa using h), fun h => hF.out.f3 (by simpa using h), fun h => hF.out.f4 (by simpa using h), fun h => hF.out.f5 (by simpa using h), fun h => hF.out.f6 (by simpa using h), fun h => hF.out.f7 (by simpa using h), fun h => hF.out.f8 (by simpa using h), fun h => hF.out.f9 (by simpa using h), fun h => by have := hF.out.o73 (by simpa using h); simpa using this, fun h => by have := hF.out.o76 (by simpa using h); simpa using this, fun h => by have := hF.out.o93 (by simpa using h); simpa using this, fun h => by have := hF.out.o96 (by simpa using h); simpa using this, fun h => by have := hF.out.o98 (by simpa using h); simpa using this, hF.out.px, hF.out.sz, fun h => hF.out.mr (by simpa using h), fun h => hF.out.cl (by simpa using h), fun h h2 => hF.out.al (by simpa using h) (by simpa using h2), fun h => hF.out.st (by simpa using h), fun h k => hF.out.n36 (by simpa using h) (by simpa using k), fun h k => hF.out.n38 (by simpa using h) (by simpa using k), fun h k => hF.out.n68 (by simpa using h) (by simpa using k), hF.out.rs⟩
    · intro d a W hI hd hdep
      obtain ⟨gr, gt, ct, gd, x5, x16, x17, x18, x19, x20, x21, x22, x23, rfl, hF⟩ := hI
      have hd1 : d 1 = true := dep_of hdep 1 (by kernel_rfl)
      obtain rfl := hF.out.f1 hd1
      clear hdep hd hd1
      intro K hK
      simp only [Act.put, List.setIfInBounds_toArray, List.set_cons_zero, List.set_cons_succ]
      go_simp
      refine hK.out _ _ ⟨gr, gt, ct, gd, x5, x16, (.slice (some ⟨b, o, none⟩) n cap), (.int .i64 (n : Int)), x19, x20, x21, x22, x23, by simp only [Act.put, List.setIfInBounds_toArray, List.set_cons_zero, List.set_cons_succ], ?_⟩
      exact ⟨fun h => hF.out.f0 (by simpa using h), fun h => hF.out.f1 (by simpa using h), fun _ => rfl, fun h => hF.out.f3 (by simpa using h), fun h => hF.out.f4 (by simpa using h), fun h => hF.out.f5 (by simpa using h), fun h => hF.out.f6 (by simpa using h), fun h => hF.out.f7 (by simpa using h), fun h => hF.out.f8 (by simpa using h), fun h => hF.out.f9 (by simpa using h), fun h => by have := hF.out.o73 (by simpa using h); simpa using this, fun h => by have := hF.out.o76 (by simpa using h); simpa using this, fun h => by have := hF.out.o93 (by simpa using h); simpa using this, fun h => by have := hF.out.o96 (by simpa using h); simpa using this, fun h => by have := hF.out.o98 (by simpa using h); simpa using this, hF.out.px, hF.out.sz, fun h => hF.out.mr (by simpa using h), fun h => hF.out.cl (by simpa using h), fun h h2 => hF.out.al (by simpa using h) (by simpa using h2), fun h => hF.out.st (by simpa using h), fun h k => hF.out.n36 (by simpa using h) (by simpa using k), fun h k => hF.out.n38 (by simpa using h) (by simpa using k), fun h k => hF.out.n68 (by simpa using h) (by simpa using k), hF.out.rs⟩
    · intro d a W hI hd hdep
      obtain ⟨gr, gt, ct, gd, x5, x16, x17, x18, x19, x20, x21, x22, x23, rfl, hF⟩ := hI
      have hd2 : d 2 = true := dep_of hdep 2 (by kernel_rfl)
      obtain rfl := hF.out.f2 hd2
      have hmk := make_rows n HN.out
      have HD : Hid (d 7 = false) := no_later hF.out.o73 hd
      have HD9 : Hid (d 9 = false) := no_later hF.out.o93 hd
      have B1 := (Below.refl W.heap.size W).alloc (Nat.le_refl _) (Obj.cells (Array.replicate (n * 256) (Value.int .i16 0)) 72)
      clear hdep hd hd2
      intro K hK
      simp only [Act.put, List.setIfInBounds_toArray, List.set_cons_zero, List.set_cons_succ]
      go_simp
      refine hK.out _ _ ⟨W.heap.size, gt, ct, gd, x5, x16, x17, (.int .i64 (n : Int)), (.slice (some ⟨W.heap.size, 0, none⟩) n n), x20, x21, x22, x23, by simp only [Act.put, List.setIfInBounds_toArray, List.set_cons_zero, List.set_cons_succ], ?_⟩
      exact ⟨fun h => hF.out.f0 (by simpa using h), fun h => hF.out.f1 (by simpa using h), fun h => hF.out.f2 (by simpa using h), fun _ => rfl, fun h => hF.out.f4 (by simpa using h), fun h => hF.out.f5 (by simpa using h), fun h => hF.out.f6 (by simpa using h), fun h => by have := HD.out; simp [this] at h, fun h => hF.out.f8 (by simpa using h), fun h => hF.out.f9 (by simpa using h), fun _ => by simp, fun h => by have := hF.out.o76 (by simpa using h); simpa using this, fun _ => by simp, fun h => by have := hF.out.o96 (by simpa using h); simpa using this, fun h => by have := hF.out.o98 (by simpa using h); simpa using this, hF.out.px.step B1, by simp; have := hF.out.sz; omega, fun _ => ⟨hF.out.sz, rows_made W n⟩, fun h => have k := hF.out.cl (by simpa using h); ⟨k.1, by simp; have := k.2.1; omega, fun i hi => (B1.cell (p := ⟨gt, i, none⟩) k.2.1).trans (k.2.2 i hi)⟩, fun h h2 => have k := hF.out.al (by simpa using h) (by simpa using h2); ⟨k.1, by simp; have := k.2.1; omega, k.2.2.alloc _⟩, fun h => by have := HD9.out; simp [this] at h, fun _ k => by have := (hF.out.cl (by simpa using k)).2.1; omega, fun _ k => by have := (hF.out.al (by simpa using k) (by simpa using HD9.out)).2.1; omega, fun h k => hF.out.n68 (by simpa using h) (by simpa using k), hF.out.rs.alloc _⟩
    · intro d a W hI hd hdep
      obtain ⟨gr, gt, ct, gd, x5, x16, x17, x18, x19, x20, x21, x22, x23, rfl, hF⟩ := hI
      clear hdep hd
      intro K hK
      simp only [Act.put, List.setIfInBounds_toArray, List.set_cons_zero, List.set_cons_succ]
      go_simp
      refine hK.out _ _ ⟨gr, gt, ct, gd, x5, x16, x17, x18, x19, (.pointer (some ⟨w.heap.size, 257, none⟩)), x21, x22, x23, by simp only [Act.put, List.setIfInBounds_toArray, List.set_cons_zero, List.set_cons_succ], ?_⟩
      exact ⟨fun h => hF.out.f0 (by simpa using h), fun h => hF.out.f1 (by simpa using h), fun h => hF.out.f2 (by simpa using h), fun h => hF.out.f3 (by simpa using h), fun _ => rfl, fun h => hF.out.f5 (by simpa using h), fun h => hF.out.f6 (by simpa using h), fun h => hF.out.f7 (by simpa using h), fun h => hF.out.f8 (by simpa using h), fun h => hF.out.f9 (by simpa using h), fun h => by have := hF.out.o73 (by simpa using h); simpa using this, fun h => by have := hF.out.o76 (by simpa using h); simpa using this, fun h => by have := hF.out.o93 (by simpa using h); simpa using this, fun h => by have := hF.out.o96 (by simpa using h); simpa using this, fun h => by have := hF.out.o98 (by simpa using h); simpa using this, hF.out.px, hF.out.sz, fun h => hF.out.mr (by simpa using h), fun h => hF.out.cl (by simpa using h), fun h h2 => hF.out.al (by simpa using h) (by simpa using h2), fun h => hF.out.st (by simpa using h), fun h k => hF.out.n36 (by simpa using h) (by simpa using k), fun h k => hF.out.n38 (by simpa using h) (by simpa using k), fun h k => hF.out.n68 (by simpa using h) (by simpa using k), hF.out.rs⟩
    · intro d a W hI hd hdep
      obtain ⟨gr, gt, ct, gd, x5, x16, x17, x18, x19, x20, x21, x22, x23, rfl, hF⟩ := hI
      have hd4 : d 4 = true := dep_of hdep 4 (by kernel_rfl)
      obtain rfl := hF.out.f4 hd4
      have y0 := hF.out.px.c2
      clear hdep hd hd4
      intro K hK
      simp only [Act.put, List.setIfInBounds_toArray, List.set_cons_zero, List.set_cons_succ]
      go_simp
      refine hK.out _ _ ⟨gr, gt, ct, gd, x5, x16, x17, x18, x19, (.pointer (some ⟨w.heap.size, 257, none⟩)), (.slice (some ⟨b2, o2, none⟩) n cap2), x22, x23, by simp only [Act.put, List.setIfInBounds_toArray, List.set_cons_zero, List.set_cons_succ], ?_⟩
      exact ⟨fun h => hF.out.f0 (by simpa using h), fun h => hF.out.f1 (by simpa using h), fun h => hF.out.f2 (by simpa using h), fun h => hF.out.f3 (by simpa using h), fun h => hF.out.f4 (by simpa using h), fun _ => rfl, fun h => hF.out.f6 (by simpa using h), fun h => hF.out.f7 (by simpa using h), fun h => hF.out.f8 (by simpa using h), fun h => hF.out.f9 (by simpa using h), fun h => by have := hF.out.o73 (by simpa using h); simpa using this, fun h => by have := hF.out.o76 (by simpa using h); simpa using this, fun h => by have := hF.out.o93 (by simpa using h); simpa using this, fun h => by have := hF.out.o96 (by simpa using h); simpa using this, fun h => by have := hF.out.o98 (by simpa using h); simpa using this, hF.out.px, hF.out.sz, fun h => hF.out.mr (by simpa using h), fun h => hF.out.cl (by simpa using h), fun h h2 => hF.out.al (by simpa using h) (by simpa using h2), fun h => hF.out.st (by simpa using h), fun h k => hF.out.n36 (by simpa using h) (by simpa using k), fun h k => hF.out.n38 (by simpa using h) (by simpa using k), fun h k => hF.out.n68 (by simpa using h) (by simpa using k), hF.out.rs⟩
    · intro d a W hI hd hdep
      obtain ⟨gr, gt, ct, gd, x5, x16, x17, x18, x19, x20, x21, x22, x23, rfl, hF⟩ := hI
      have hd5 : d 5 = true := dep_of hdep 5 (by kernel_rfl)
      obtain rfl := hF.out.f5 hd5
      have HD : Hid (d 7 = false) := no_later hF.out.o76 hd
      have HD9 : Hid (d 9 = false) := no_later hF.out.o96 hd
      have hcl := clone_any _ n T W hF.out.px.tags HN.out.1 HN.out.2
      clear hdep hd hd5
      intro K hK
      simp only [Act.put, List.setIfInBounds_toArray, List.set_cons_zero, List.set_cons_succ]
      go_simp
      refine hcl.mono ?_
      rintro _ W1 ⟨gt1, ct1, rfl, hg1, hg2, hg3, hB⟩
      go_simp
      refine hK.out _ _ ⟨gr, gt1, ct1, gd, x5, x16, x17, x18, x19, x20, (.slice (some ⟨b2, o2, none⟩) n cap2), (.slice (some ⟨gt1, 0, none⟩) n ct1), x23, by simp only [Act.put, List.setIfInBounds_toArray, List.set_cons_zero, List.set_cons_succ], ?_⟩
      exact ⟨fun h => hF.out.f0 (by simpa using h), fun h => hF.out.f1 (by simpa using h), fun h => hF.out.f2 (by simpa using h), fun h => hF.out.f3 (by simpa using h), fun h => hF.out.f4 (by simpa using h), fun h => hF.out.f5 (by simpa using h), fun _ => rfl, fun h => by have := HD.out; simp [this] at h, fun h => hF.out.f8 (by simpa using h), fun h => hF.out.f9 (by simpa using h), fun h => by have := hF.out.o73 (by simpa using h); simpa using this, fun _ => by simp, fun h => by have := hF.out.o93 (by simpa using h); simpa using this, fun _ => by simp, fun h => by have := hF.out.o98 (by simpa using h); simpa using this, hF.out.px.step hB, Nat.le_trans hF.out.sz hB.size, fun h => have k := hF.out.mr (by simpa using h); ⟨k.1, k.2.of_block (hB.block _ k.2.lt)⟩, fun _ => ⟨Nat.le_trans hF.out.sz hg1, hg2, hg3⟩, fun h h2 => have k := hF.out.al (by simpa using h) (by simpa using h2); ⟨k.1, Nat.lt_of_lt_of_le k.2.1 hB.size, k.2.2.of_block (hB.block _ k.2.1)⟩, fun h => by have := HD9.out; simp [this] at h, fun k _ => by have := (hF.out.mr (by simpa using k)).2.lt; omega, fun h k => hF.out.n38 (by simpa using h) (by simpa using k), fun _ k => by have := (hF.out.al (by simpa using k) (by simpa using HD9.out)).2.1; omega, hF.out.rs.of_block (hB.block _ hF.out.rs.lt)⟩
    · intro d a W hI hd hdep
      obtain ⟨gr, gt, ct, gd, x5, x16, x17, x18, x19, x20, x21, x22, x23, rfl, hF⟩ := hI
      have hd3 : d 3 = true := dep_of hdep 3 (by kernel_rfl)
      have hd6 : d 6 = true := dep_of hdep 6 (by kernel_rfl)
      obtain rfl := hF.out.f3 hd3
      obtain rfl := hF.out.f6 hd6
      have hdd := hd3
      have hde := hd6
      clear hdep hd hd3 hd6
      intro K hK
      simp only [Act.put, List.setIfInBounds_toArray, List.set_cons_zero, List.set_cons_succ]
      go_simp
      refine hK.out _ _ ⟨gr, gt, ct, gd, x5, x16, x17, x18, (.slice (some ⟨gr, 0, none⟩) n n), x20, x21, (.slice (some ⟨gt, 0, none⟩) n ct), (.agg #[.slice (some ⟨gr, 0, none⟩) n n, .slice (some ⟨gt, 0, none⟩) n ct]), by simp only [Act.put, List.setIfInBounds_toArray, List.set_cons_zero, List.set_cons_succ], ?_⟩
      exact ⟨fun h => hF.out.f0 (by simpa using h), fun h => hF.out.f1 (by simpa using h), fun h => hF.out.f2 (by simpa using h), fun h => hF.out.f3 (by simpa using h), fun h => hF.out.f4 (by simpa using h), fun h => hF.out.f5 (by simpa using h), fun h => hF.out.f6 (by simpa using h), fun _ => rfl, fun h => hF.out.f8 (by simpa using h), fun h => hF.out.f9 (by simpa using h), fun _ => by simpa using hdd, fun _ => by simpa using hde, fun h => by have := hF.out.o93 (by simpa using h); simpa using this, fun h => by have := hF.out.o96 (by simpa using h); simpa using this, fun h => by have := hF.out.o98 (by simpa using h); simpa using this, hF.out.px, hF.out.sz, fun h => hF.out.mr (by simpa using h), fun h => hF.out.cl (by simpa using h), fun h h2 => hF.out.al (by simpa using h) (by simpa using h2), fun h => hF.out.st (by simpa using h), fun h k => hF.out.n36 (by simpa using h) (by simpa using k), fun h k => hF.out.n38 (by simpa using h) (by simpa using k), fun h k => hF.out.n68 (by simpa using h) (by simpa using k), hF.out.rs⟩
    · intro d a W hI hd hdep
      obtain ⟨gr, gt, ct, gd, x5, x16, x17, x18, x19, x20, x21, x22, x23, rfl, hF⟩ := hI
      have HD9 : Hid (d 9 = false) := no_later hF.out.o98 hd
      have B1 := (Below.refl W.heap.size W).alloc (Nat.le_refl _) (Obj.cells #[Value.slice none 0 0, Value.slice none 0 0] 30)
      clear hdep hd
      intro K hK
      simp only [Act.put, List.setIfInBounds_toArray, List.set_cons_zero, List.set_cons_succ]
      go_simp
      refine hK.out _ _ ⟨gr, gt, ct, W.heap.size, (.pointer (some ⟨W.heap.size, 0, none⟩)), x16, x17, x18, x19, x20, x21, x22, x23, by simp only [Act.put, List.setIfInBounds_toArray, List.set_cons_zero, List.set_cons_succ], ?_⟩
      exact ⟨fun h => hF.out.f0 (by simpa using h), fun h => hF.out.f1 (by simpa using h), fun h => hF.out.f2 (by simpa using h), fun h => hF.out.f3 (by simpa using h), fun h => hF.out.f4 (by simpa using h), fun h => hF.out.f5 (by simpa using h), fun h => hF.out.f6 (by simpa using h), fun h => hF.out.f7 (by simpa using h), fun _ => rfl, fun h => hF.out.f9 (by simpa using h), fun h => by have := hF.out.o73 (by simpa using h); simpa using this, fun h => by have := hF.out.o76 (by simpa using h); simpa using this, fun h => by have := hF.out.o93 (by simpa using h); simpa using this, fun h => by have := hF.out.o96 (by simpa using h); simpa using this, fun _ => by simp, hF.out.px.step B1, by simp; have := hF.out.sz; omega, fun h => have k := hF.out.mr (by simpa using h); ⟨k.1, k.2.alloc _⟩, fun h => have k := hF.out.cl (by simpa using h); ⟨k.1, by simp; have := k.2.1; omega, fun i hi => (B1.cell (p := ⟨gt, i, none⟩) k.2.1).trans (k.2.2 i hi)⟩, fun _ _ => ⟨hF.out.sz, by simp, (row_two W (.slice none 0 0) (.slice none 0 0)).congr fun i _ => by split <;> rfl⟩, fun h => by have := HD9.out; simp [this] at h, fun h k => hF.out.n36 (by simpa using h) (by simpa using k), fun k _ => by have := (hF.out.mr (by simpa using k)).2.lt; omega, fun k _ => by have := (hF.out.cl (by simpa using k)).2.1; omega, hF.out.rs.alloc _⟩
    · intro d a W hI hd hdep
      obtain ⟨gr, gt, ct, gd, x5, x16, x17, x18, x19, x20, x21, x22, x23, rfl, hF⟩ := hI
      have hd8 : d 8 = true := dep_of hdep 8 (by kernel_rfl)
      have hd7 : d 7 = true := dep_of hdep 7 (by kernel_rfl)
      obtain rfl := hF.out.f8 hd8
      obtain rfl := hF.out.f7 hd7
      have hdd := hF.out.o73 hd7
      have hde := hF.out.o76 hd7
      have hdf := hd8
      obtain ⟨hgd1, hgd2, hgd3⟩ := hF.out.al hd8 hd
      have y0 := hgd3.cell (i := 0) (by omega)
      have y1 := hgd3.cell (i := 1) (by omega)
      have y2 := hgd3.frozen 0
      have y3 := hgd3.frozen 1
      have hlt := hgd3.lt
      have hn1 := hF.out.n38 (hF.out.o73 hd7) hd8
      have hn2 := hF.out.n68 (hF.out.o76 hd7) hd8
      clear hdep hd hd8 hd7
      intro K hK
      simp only [Act.put, List.setIfInBounds_toArray, List.set_cons_zero, List.set_cons_succ]
      go_simp
      refine hK.out _ _ ⟨gr, gt, ct, gd, (.pointer (some ⟨gd, 0, none⟩)), x16, x17, x18, x19, x20, x21, x22, (.agg #[.slice (some ⟨gr, 0, none⟩) n n, .slice (some ⟨gt, 0, none⟩) n ct]), by simp only [Act.put, List.setIfInBounds_toArray, List.set_cons_zero, List.set_cons_succ], ?_⟩
      have hsame := same_two W gd (.slice (some ⟨gr, 0, none⟩) n n) (.slice (some ⟨gt, 0, none⟩) n ct)
      have hrow := row_two_set hgd3 (.slice (some ⟨gr, 0, none⟩) n n) (.slice (some ⟨gt, 0, none⟩) n ct)
      exact ⟨fun h => hF.out.f0 (by simpa using h), fun h => hF.out.f1 (by simpa using h), fun h => hF.out.f2 (by simpa using h), fun h => hF.out.f3 (by simpa using h), fun h => hF.out.f4 (by simpa using h), fun h => hF.out.f5 (by simpa using h), fun h => hF.out.f6 (by simpa using h), fun h => hF.out.f7 (by simpa using h), fun h => hF.out.f8 (by simpa using h), fun _ => trivial, fun h => by have := hF.out.o73 (by simpa using h); simpa using this, fun h => by have := hF.out.o76 (by simpa using h); simpa using this, fun _ => by simpa using hdd, fun _ => by simpa using hde, fun _ => by simpa using hdf, hF.out.px.set HX0.out HT0.out hsame (by omega) (by omega), by rw [hsame.1]; exact hF.out.sz, fun _ => have k := hF.out.mr hdd; ⟨k.1, k.2.of_block (hsame.2.2.2.2 _ hn1)⟩, fun _ => have k := hF.out.cl hde; ⟨k.1, by rw [hsame.1]; exact k.2.1, fun i hi => (cell_same (hsame.2.2.2.2 _ hn2) i).trans (k.2.2 i hi)⟩, fun _ h => by simp at h, fun _ => ⟨hgd1, by rw [hsame.1]; exact hgd2, hrow⟩, fun _ _ => hF.out.n36 hdd hde, fun _ _ => hn1, fun _ _ => hn2, hF.out.rs.of_block (hsame.2.2.2.2 _ (by omega))⟩
  · intro d a W hI hall
    obtain ⟨gr, gt, ct, gd, x5, x16, x17, x18, x19, x20, x21, x22, x23, rfl, hF⟩ := hI
    simp only [List.length_cons, List.length_nil] at hall
    obtain rfl := hF.out.f0 (hall 0 (by omega))
    obtain rfl := hF.out.f1 (hall 1 (by omega))
    obtain rfl := hF.out.f2 (hall 2 (by omega))
    obtain rfl := hF.out.f3 (hall 3 (by omega))
    obtain rfl := hF.out.f4 (hall 4 (by omega))
    obtain rfl := hF.out.f5 (hall 5 (by omega))
    obtain rfl := hF.out.f6 (hall 6 (by omega))
    obtain rfl := hF.out.f7 (hall 7 (by omega))
    obtain rfl := hF.out.f8 (hall 8 (by omega))
    have HU : Hid (Un w O b o cap b2 o2 cap2 n L X T l gr gt ct gd (fun _ _ => 0) W ∧ w.heap.size + 2 ≤ gr ∧ gr ≠ gt ∧ gr ≠ gd ∧ w.heap.size + 2 ≤ gd ∧ w.heap.size + 2 ≤ gt) := by
      have h3 := hF.out.mr (hall 3 (by omega))
      have h6 := hF.out.cl (hall 6 (by omega))
      have h9 := hF.out.st (hall 9 (by omega))
      exact ⟨⟨hF.out.px, h3.2, h6.2.2, h9.2.2, hF.out.rs, h6.2.1⟩, h3.1, hF.out.n36 (hall 3 (by omega)) (hall 6 (by omega)), hF.out.n38 (hall 3 (by omega)) (hall 8 (by omega)), h9.1, h6.1⟩
    clear hF hall HP1
    simp only [Act.put, List.setIfInBounds_toArray, List.set_cons_zero, List.set_cons_succ]
    have HG : Hid (w.heap.size + 2 ≤ gr ∧ gr ≠ gt ∧ gr ≠ gd ∧ w.heap.size + 2 ≤ gd ∧ w.heap.size + 2 ≤ gt) := HU.out.2
    have c1 := HU.out.1.px.c1
    go_wp2_with fail
    clear c1
    go_loopw [27] (fun i wr => ∃ k : Nat, k ≤ n ∧ i = .int .i64 (k : Int) ∧ Hid (∃ F, Un w O b o cap b2 o2 cap2 n L X T l gr gt ct gd F wr ∧ ∀ x y, x < k → y < 256 → F x y = X x (O y))) (fun i _ => n - (intOf i).toNat)
    case atStart => exact ⟨0, by omega, rfl, _, HU.out.1, fun x y hx => by omega⟩
    case round =>
      obtain ⟨k, hk, rfl, HE⟩ := hrel
      obtain ⟨F, hF, hFe⟩ := HE.out
      have HF : Hid (Un w O b o cap b2 o2 cap2 n L X T l gr gt ct gd F wr) := hF
      have HFE : Hid (∀ x y, x < k → y < 256 → F x y = X x (O y)) := hFe
      clear hF hFe HE
      by_cases hlt : k < n
      · obtain ⟨a1, cp1, ck0, hl1, hts0⟩ := HX0.out.cells k hlt
        have hbw : b < w.heap.size := by obtain ⟨b', o', e, h⟩ := HX0.out.place (by omega); simp at e; rw [e.1]; exact h
        obtain ⟨bk, ok, rfl, -⟩ := hts0.place (by have := (HCO.out k 0 hlt (by omega)).2.1; omega)
        have ck := (HF.out.px.below.cell (p := ⟨b, o + k, none⟩) hbw).trans ck0
        have HTS : Hid (Ts w (.slice (some ⟨bk, ok, none⟩) (L k) cp1) (L k) (X k)) := hts0
        clear ck0 hts0
        have hk0 : (0 : Int) ≤ (k : Int) := by omega
        have hk1 : (k : Int) < (n : Int) := by omega
        have HCL : Hid (wr.rangeAt w.heap.size 0 (ol O)) := HF.out.px.cols
        have HIX : Hid (∀ j : Nat, j < 256 → ∀ w : World, (Instr.index 52 (.agg (ol O).toArray) (.int .i64 (j : Int))).run Try.prog w = .ok (.int .u8 (O j : Int)) w) := index_of O
        have HSZ : Hid ((Try.prog.info? 52).map (·.size) = some (ol O).length) := by show _ = _; rw [ol_length]; exact size44
        obtain ⟨l2, HL2⟩ : ∃ l, Hid (ol O = l) := ⟨_, (rfl : ol O = ol O)⟩
        rw [HL2.out] at HCL HIX HSZ
        obtain ⟨lk, HLk⟩ : ∃ q, Hid (L k = q) := ⟨_, (rfl : L k = L k)⟩
        rw [HLk.out] at ck hl1
        go_wp2_with (refine wpList_load_mid rfl 52 _ rfl w.heap.size 0 rfl l2 _ HCL.out Try.underlying52 rfl HSZ.out ?_)
        clear ck HCL
        go_loopw [34] (fun i wr => ∃ j : Nat, j ≤ 256 ∧ i = .int .i64 (j : Int) ∧ Hid (∃ F, Un w O b o cap b2 o2 cap2 n L X T l gr gt ct gd F wr ∧ (∀ x y, x < k → y < 256 → F x y = X x (O y)) ∧ ∀ y, y < j → F k y = X k (O y))) (fun i _ => 256 - (intOf i).toNat)
        case atStart => exact ⟨0, by omega, rfl, F, HF.out, HFE.out, fun y hy => by omega⟩
        case round =>
          clear HF HFE
          obtain ⟨j, hj, rfl, HE⟩ := hrel
          obtain ⟨F, hF, hFe, hFk⟩ := HE.out
          have HF : Hid (Un w O b o cap b2 o2 cap2 n L X T l gr gt ct gd F wr) := hF
          have HFE : Hid ((∀ x y, x < k → y < 256 → F x y = X x (O y)) ∧ ∀ y, y < j → F k y = X k (O y)) := ⟨hFe, hFk⟩
          clear hF hFe hFk HE
          by_cases hjt : j < 256
          · have hts := HTS.out.below HF.out.px.below (Nat.le_refl _)
            obtain ⟨hc1, hc2, hc3, hc4⟩ := HCO.out k j hlt hjt
            have cx := hts.cells (O j) hc2
            rw [HLk.out] at hc2
            have hix := HIX.out j hjt
            obtain ⟨oj, HOJ⟩ : ∃ q, Hid (O j = q) := ⟨_, (rfl : O j = O j)⟩
            rw [HOJ.out] at cx hix hc2 hc3 hc4
            obtain ⟨z, HZ⟩ : ∃ q, Hid (X k oj = q) := ⟨_, (rfl : X k oj = X k oj)⟩
            rw [HZ.out] at cx hc3 hc4
            have hn2 := HN.out.2
            have hwr : IntKind.i16.wrap z = z := wrap16 (by omega)
            have hj0 : (0 : Int) ≤ (j : Int) := by omega
            have hj1 : (j : Int) < 256 := by omega
            have ho0 : (0 : Int) ≤ (oj : Int) := by omega
            have ho1 : (oj : Int) < (lk : Int) := by omega
            have c1 := HF.out.st.cell (i := 0) (by omega)
            simp only [if_true] at c1
            have HKJ : Hid (k * 256 + j < n * 256) := by show _ < _; omega
            have f1 := HF.out.rows.frozen (k * 256 + j)
            have d3 := HF.out.rows.cell HKJ.out
            have HWR : Hid (IntKind.i16.wrap z = z) := hwr
            clear hts hc1 hc3 hc4 hwr
            go_wp2_with fail
            refine wp_region_free mixed (fun a0 d a W => ∃ (x38 x39 x40 x41 x42 x43 x44 x45 x46 x47 x48 : Value), a = (((((((((((a0.put (some 38) x38).put (some 39) x39).put (some 40) x40).put (some 41) x41).put (some 42) x42).put (some 43) x43).put (some 44) x44).put (some 45) x45).put (some 46) x46).put (some 47) x47).put (some 48) x48) ∧ Hid (RV wr gd gr n k j bk ok lk cp1 oj z d x38 x39 x40 x41 x42 x43 x44 x45 x46 x47 x48 W)) (by kernel_rfl) ⟨u38, u39, u40, u41, u42, u43, u44, u45, u46, u47, u48, by simp only [Act.put, List.setIfInBounds_toArray, List.set_cons_zero, List.set_cons_succ], ?_⟩ ?_ ?_
            · exact ⟨fun h => no_way h, fun h => no_way h, fun h => no_way h, fun h => no_way h, fun h => no_way h, fun h => no_way h, fun h => no_way h, fun h => no_way h, fun h => no_way h, fun h => no_way h, fun h => no_way h, fun _ => trivial, fun h => no_way h, fun h => no_way h, fun h => no_way h, fun h => no_way h, fun h => no_way h, fun h => no_way h, fun h => no_way h, fun h => no_way h, fun h => no_way h, fun h => no_way h, fun h => no_way h, fun h => no_way h, fun _ => Sm.drew wr, fun h => no_way h⟩
            · simp only [StepAll, and_true]
              refine ⟨?_, ?_, ?_, ?_, ?_, ?_, ?_, ?_, ?_, ?_, ?_, ?_⟩
              · intro d a W hI hd hdep
                obtain ⟨x38, x39, x40, x41, x42, x43, x44, x45, x46, x47, x48, rfl, hF⟩ := hI
                have hsm := hF.out.sm (no_later hF.out.p0 hd)
                clear hdep hd
                intro K hK
                simp only [Act.put, List.setIfInBounds_toArray, List.set_cons_zero, List.set_cons_succ]
                go_simp
                refine hK.out _ _ ⟨(.pointer (some ⟨gd, 0, none⟩)), x39, x40, x41, x42, x43, x44, x45, x46, x47, x48, by simp only [Act.put, List.setIfInBounds_toArray, List.set_cons_zero, List.set_cons_succ], ?_⟩
                exact ⟨fun _ => rfl, fun h => hF.out.f1 (by simpa using h), fun h => hF.out.f2 (by simpa using h), fun h => hF.out.f3 (by simpa using h), fun h => hF.out.f4 (by simpa using h), fun h => hF.out.f5 (by simpa using h), fun h => hF.out.f6 (by simpa using h), fun h => hF.out.f7 (by simpa using h), fun h => hF.out.f8 (by simpa using h), fun h => hF.out.f9 (by simpa using h), fun h => hF.out.f10 (by simpa using h), fun h => hF.out.f11 (by simpa using h), fun _ => by simp, fun h => by have := hF.out.p1 (by simpa using h); simpa using this, fun h => by have := hF.out.p2 (by simpa using h); simpa using this, fun h => by have := hF.out.p3 (by simpa using h); simpa using this, fun h => by have := hF.out.p4 (by simpa using h); simpa using this, fun h => by have := hF.out.p5 (by simpa using h); simpa using this, fun h => by have := hF.out.p6 (by simpa using h); simpa using this, fun h => by have := hF.out.p7 (by simpa using h); simpa using this, fun h => by have := hF.out.p8 (by simpa using h); simpa using this, fun h => by have := hF.out.p9 (by simpa using h); simpa using this, fun h => by have := hF.out.p10 (by simpa using h); simpa using this, fun h => by have := hF.out.q (by simpa using h); simpa using this, fun _ => hsm, fun h => hF.out.fin (by simpa using h)⟩
              · intro d a W hI hd hdep
                obtain ⟨x38, x39, x40, x41, x42, x43, x44, x45, x46, x47, x48, rfl, hF⟩ := hI
                have hd0 : d 0 = true := dep_of hdep 0 (by kernel_rfl)
                obtain rfl := hF.out.f0 hd0
                have hsm := hF.out.sm (no_later hF.out.p1 hd)
                have y0 := (hsm.cell _).trans c1
                clear hdep hd hd0
                intro K hK
                simp only [Act.put, List.setIfInBounds_toArray, List.set_cons_zero, List.set_cons_succ]
                go_simp
                refine hK.out _ _ ⟨(.pointer (some ⟨gd, 0, none⟩)), (.slice (some ⟨gr, 0, none⟩) n n), x40, x41, x42, x43, x44, x45, x46, x47, x48, by simp only [Act.put, List.setIfInBounds_toArray, List.set_cons_zero, List.set_cons_succ], ?_⟩
                exact ⟨fun h => hF.out.f0 (by simpa using h), fun _ => rfl, fun h => hF.out.f2 (by simpa using h), fun h => hF.out.f3 (by simpa using h), fun h => hF.out.f4 (by simpa using h), fun h => hF.out.f5 (by simpa using h), fun h => hF.out.f6 (by simpa using h), fun h => hF.out.f7 (by simpa using h), fun h => hF.out.f8 (by simpa using h), fun h => hF.out.f9 (by simpa using h), fun h => hF.out.f10 (by simpa using h), fun h => hF.out.f11 (by simpa using h), fun h => by have := hF.out.p0 (by simpa using h); simpa using this, fun _ => by simp, fun h => by have := hF.out.p2 (by simpa using h); simpa using this, fun h => by have := hF.out.p3 (by simpa using h); simpa using this, fun h => by have := hF.out.p4 (by simpa using h); simpa using this, fun h => by have := hF.out.p5 (by simpa using h); simpa using this, fun h => by have := hF.out.p6 (by simpa using h); simpa using this, fun h => by have := hF.out.p7 (by simpa using h); simpa using this, fun h => by have := hF.out.p8 (by simpa using h); simpa using this, fun h => by have := hF.out.p9 (by simpa using h); simpa using this, fun h => by have := hF.out.p10 (by simpa using h); simpa using this, fun h => by have := hF.out.q (by simpa using h); simpa using this, fun _ => hsm, fun h => hF.out.fin (by simpa using h)⟩
              · intro d a W hI hd hdep
                obtain ⟨x38, x39, x40, x41, x42, x43, x44, x45, x46, x47, x48, rfl, hF⟩ := hI
                have hsm := hF.out.sm (no_later hF.out.p2 hd)
                clear hdep hd
                intro K hK
                simp only [Act.put, List.setIfInBounds_toArray, List.set_cons_zero, List.set_cons_succ]
                go_simp
                refine hK.out _ _ ⟨x38, x39, (.int .i64 (k : Int)), x41, x42, x43, x44, x45, x46, x47, x48, by simp only [Act.put, List.setIfInBounds_toArray, List.set_cons_zero, List.set_cons_succ], ?_⟩
                exact ⟨fun h => hF.out.f0 (by simpa using h), fun h => hF.out.f1 (by simpa using h), fun _ => rfl, fun h => hF.out.f3 (by simpa using h), fun h => hF.out.f4 (by simpa using h), fun h => hF.out.f5 (by simpa using h), fun h => hF.out.f6 (by simpa using h), fun h => hF.out.f7 (by simpa using h), fun h => hF.out.f8 (by simpa using h), fun h => hF.out.f9 (by simpa using h), fun h => hF.out.f10 (by simpa using h), fun h => hF.out.f11 (by simpa using h), fun h => by have := hF.out.p0 (by simpa using h); simpa using this, fun h => by have := hF.out.p1 (by simpa using h); simpa using this, fun _ => by simp, fun h => by have := hF.out.p3 (by simpa using h); simpa using this, fun h => by have := hF.out.p4 (by simpa using h); simpa using this, fun h => by have := hF.out.p5 (by simpa using h); simpa using this, fun h => by have := hF.out.p6 (by simpa using h); simpa using this, fun h => by have := hF.out.p7 (by simpa using h); simpa using this, fun h => by have := hF.out.p8 (by simpa using h); simpa using this, fun h => by have := hF.out.p9 (by simpa using h); simpa using this, fun h => by have := hF.out.p10 (by simpa using h); simpa using this, fun h => by have := hF.out.q (by simpa using h); simpa using this, fun _ => hsm, fun h => hF.out.fin (by simpa using h)⟩
              · intro d a W hI hd hdep
                obtain ⟨x38, x39, x40, x41, x42, x43, x44, x45, x46, x47, x48, rfl, hF⟩ := hI
                have hsm := hF.out.sm (no_later hF.out.p3 hd)
                clear hdep hd
                intro K hK
                simp only [Act.put, List.setIfInBounds_toArray, List.set_cons_zero, List.set_cons_succ]
                go_simp
                refine hK.out _ _ ⟨x38, x39, x40, (.int .i64 (j : Int)), x42, x43, x44, x45, x46, x47, x48, by simp only [Act.put, List.setIfInBounds_toArray, List.set_cons_zero, List.set_cons_succ], ?_⟩
                exact ⟨fun h => hF.out.f0 (by simpa using h), fun h => hF.out.f1 (by simpa using h), fun h => hF.out.f2 (by simpa using h), fun _ => rfl, fun h => hF.out.f4 (by simpa using h), fun h => hF.out.f5 (by simpa using h), fun h => hF.out.f6 (by simpa using h), fun h => hF.out.f7 (by simpa using h), fun h => hF.out.f8 (by simpa using h), fun h => hF.out.f9 (by simpa using h), fun h => hF.out.f10 (by simpa using h), fun h => hF.out.f11 (by simpa using h), fun h => by have := hF.out.p0 (by simpa using h); simpa using this, fun h => by have := hF.out.p1 (by simpa using h); simpa using this, fun h => by have := hF.out.p2 (by simpa using h); simpa using this, fun _ => by simp, fun h => by have := hF.out.p4 (by simpa using h); simpa using this, fun h => by have := hF.out.p5 (by simpa using h); simpa using this, fun h => by have := hF.out.p6 (by simpa using h); simpa using this, fun h => by have := hF.out.p7 (by simpa using h); simpa using this, fun h => by have := hF.out.p8 (by simpa using h); simpa using this, fun h => by have := hF.out.p9 (by simpa using h); simpa using this, fun h => by have := hF.out.p10 (by simpa using h); simpa using this, fun h => by have := hF.out.q (by simpa using h); simpa using this, fun _ => hsm, fun h => hF.out.fin (by simpa using h)⟩
              · intro d a W hI hd hdep
                obtain ⟨x38, x39, x40, x41, x42, x43, x44, x45, x46, x47, x48, rfl, hF⟩ := hI
                have hsm := hF.out.sm (no_later hF.out.p4 hd)
                clear hdep hd
                intro K hK
                simp only [Act.put, List.setIfInBounds_toArray, List.set_cons_zero, List.set_cons_succ]
                go_simp
                refine hK.out _ _ ⟨x38, x39, x40, x41, (.slice (some ⟨bk, ok, none⟩) lk cp1), x43, x44, x45, x46, x47, x48, by simp only [Act.put, List.setIfInBounds_toArray, List.set_cons_zero, List.set_cons_succ], ?_⟩
                exact ⟨fun h => hF.out.f0 (by simpa using h), fun h => hF.out.f1 (by simpa using h), fun h => hF.out.f2 (by simpa using h), fun h => hF.out.f3 (by simpa using h), fun _ => rfl, fun h => hF.out.f5 (by simpa using h), fun h => hF.out.f6 (by simpa using h), fun h => hF.out.f7 (by simpa using h), fun h => hF.out.f8 (by simpa using h), fun h => hF.out.f9 (by simpa using h), fun h => hF.out.f10 (by simpa using h), fun h => hF.out.f11 (by simpa using h), fun h => by have := hF.out.p0 (by simpa using h); simpa using this, fun h => by have := hF.out.p1 (by simpa using h); simpa using this, fun h => by have := hF.out.p2 (by simpa using h); simpa using this, fun h => by have := hF.out.p3 (by simpa using h); simpa using this, fun _ => by simp, fun h => by have := hF.out.p5 (by simpa using h); simpa using this, fun h => by have := hF.out.p6 (by simpa using h); simpa using this, fun h => by have := hF.out.p7 (by simpa using h); simpa using this, fun h => by have := hF.out.p8 (by simpa using h); simpa using this, fun h => by have := hF.out.p9 (by simpa using h); simpa using this, fun h => by have := hF.out.p10 (by simpa using h); simpa using this, fun h => by have := hF.out.q (by simpa using h); simpa using this, fun _ => hsm, fun h => hF.out.fin (by simpa using h)⟩
              · intro d a W hI hd hdep
                obtain ⟨x38, x39, x40, x41, x42, x43, x44, x45, x46, x47, x48, rfl, hF⟩ := hI
                have hsm := hF.out.sm (no_later hF.out.p5 hd)
                clear hdep hd
                intro K hK
                simp only [Act.put, List.setIfInBounds_toArray, List.set_cons_zero, List.set_cons_succ]
                go_simp
                refine hK.out _ _ ⟨x38, x39, x40, x41, x42, (.int .u8 (oj : Int)), x44, x45, x46, x47, x48, by simp only [Act.put, List.setIfInBounds_toArray, List.set_cons_zero, List.set_cons_succ], ?_⟩
                exact ⟨fun h => hF.out.f0 (by simpa using h), fun h => hF.out.f1 (by simpa using h), fun h => hF.out.f2 (by simpa using h), fun h => hF.out.f3 (by simpa using h), fun h => hF.out.f4 (by simpa using h), fun _ => rfl, fun h => hF.out.f6 (by simpa using h), fun h => hF.out.f7 (by simpa using h), fun h => hF.out.f8 (by simpa using h), fun h => hF.out.f9 (by simpa using h), fun h => hF.out.f10 (by simpa using h), fun h => hF.out.f11 (by simpa using h), fun h => by have := hF.out.p0 (by simpa using h); simpa using this, fun h => by have := hF.out.p1 (by simpa using h); simpa using this, fun h => by have := hF.out.p2 (by simpa using h); simpa using this, fun h => by have := hF.out.p3 (by simpa using h); simpa using this, fun h => by have := hF.out.p4 (by simpa using h); simpa using this, fun _ => by simp, fun h => by have := hF.out.p6 (by simpa using h); simpa using this, fun h => by have := hF.out.p7 (by simpa using h); simpa using this, fun h => by have := hF.out.p8 (by simpa using h); simpa using this, fun h => by have := hF.out.p9 (by simpa using h); simpa using this, fun h => by have := hF.out.p10 (by simpa using h); simpa using this, fun h => by have := hF.out.q (by simpa using h); simpa using this, fun _ => hsm, fun h => hF.out.fin (by simpa using h)⟩
              · intro d a W hI hd hdep
                obtain ⟨x38, x39, x40, x41, x42, x43, x44, x45, x46, x47, x48, rfl, hF⟩ := hI
                have hd4 : d 4 = true := dep_of hdep 4 (by kernel_rfl)
                have hd5 : d 5 = true := dep_of hdep 5 (by kernel_rfl)
                obtain rfl := hF.out.f4 hd4
                obtain rfl := hF.out.f5 hd5
                have hsm := hF.out.sm (no_later hF.out.p6 hd)
                clear hdep hd hd4 hd5
                intro K hK
                simp only [Act.put, List.setIfInBounds_toArray, List.set_cons_zero, List.set_cons_succ]
                go_simp
                refine hK.out _ _ ⟨x38, x39, x40, x41, (.slice (some ⟨bk, ok, none⟩) lk cp1), (.int .u8 (oj : Int)), (.pointer (some ⟨bk, ok + oj, none⟩)), x45, x46, x47, x48, by simp only [Act.put, List.setIfInBounds_toArray, List.set_cons_zero, List.set_cons_succ], ?_⟩
                exact ⟨fun h => hF.out.f0 (by simpa using h), fun h => hF.out.f1 (by simpa using h), fun h => hF.out.f2 (by simpa using h), fun h => hF.out.f3 (by simpa using h), fun h => hF.out.f4 (by simpa using h), fun h => hF.out.f5 (by simpa using h), fun _ => rfl, fun h => hF.out.f7 (by simpa using h), fun h => hF.out.f8 (by simpa using h), fun h => hF.out.f9 (by simpa using h), fun h => hF.out.f10 (by simpa using h), fun h => hF.out.f11 (by simpa using h), fun h => by have := hF.out.p0 (by simpa using h); simpa using this, fun h => by have := hF.out.p1 (by simpa using h); simpa using this, fun h => by have := hF.out.p2 (by simpa using h); simpa using this, fun h => by have := hF.out.p3 (by simpa using h); simpa using this, fun h => by have := hF.out.p4 (by simpa using h); simpa using this, fun h => by have := hF.out.p5 (by simpa using h); simpa using this, fun _ => by simp, fun h => by have := hF.out.p7 (by simpa using h); simpa using this, fun h => by have := hF.out.p8 (by simpa using h); simpa using this, fun h => by have := hF.out.p9 (by simpa using h); simpa using this, fun h => by have := hF.out.p10 (by simpa using h); simpa using this, fun h => by have := hF.out.q (by simpa using h); simpa using this, fun _ => hsm, fun h => hF.out.fin (by simpa using h)⟩
              · intro d a W hI hd hdep
                obtain ⟨x38, x39, x40, x41, x42, x43, x44, x45, x46, x47, x48, rfl, hF⟩ := hI
                have hd6 : d 6 = true := dep_of hdep 6 (by kernel_rfl)
                obtain rfl := hF.out.f6 hd6
                have hsm := hF.out.sm (no_later hF.out.p7 hd)
                have y0 := (hsm.cell _).trans cx
                clear hdep hd hd6
                intro K hK
                simp only [Act.put, List.setIfInBounds_toArray, List.set_cons_zero, List.set_cons_succ]
                go_simp
                refine hK.out _ _ ⟨x38, x39, x40, x41, x42, x43, (.pointer (some ⟨bk, ok + oj, none⟩)), (.int .i64 z), x46, x47, x48, by simp only [Act.put, List.setIfInBounds_toArray, List.set_cons_zero, List.set_cons_succ], ?_⟩
                exact ⟨fun h => hF.out.f0 (by simpa using h), fun h => hF.out.f1 (by simpa using h), fun h => hF.out.f2 (by simpa using h), fun h => hF.out.f3 (by simpa using h), fun h => hF.out.f4 (by simpa using h), fun h => hF.out.f5 (by simpa using h), fun h => hF.out.f6 (by simpa using h), fun _ => rfl, fun h => hF.out.f8 (by simpa using h), fun h => hF.out.f9 (by simpa using h), fun h => hF.out.f10 (by simpa using h), fun h => hF.out.f11 (by simpa using h), fun h => by have := hF.out.p0 (by simpa using h); simpa using this, fun h => by have := hF.out.p1 (by simpa using h); simpa using this, fun h => by have := hF.out.p2 (by simpa using h); simpa using this, fun h => by have := hF.out.p3 (by simpa using h); simpa using this, fun h => by have := hF.out.p4 (by simpa using h); simpa using this, fun h => by have := hF.out.p5 (by simpa using h); simpa using this, fun h => by have := hF.out.p6 (by simpa using h); simpa using this, fun _ => by simp, fun h => by have := hF.out.p8 (by simpa using h); simpa using this, fun h => by have := hF.out.p9 (by simpa using h); simpa using this, fun h => by have := hF.out.p10 (by simpa using h); simpa using this, fun h => by have := hF.out.q (by simpa using h); simpa using this, fun _ => hsm, fun h => hF.out.fin (by simpa using h)⟩
              · intro d a W hI hd hdep
                obtain ⟨x38, x39, x40, x41, x42, x43, x44, x45, x46, x47, x48, rfl, hF⟩ := hI
                have hd7 : d 7 = true := dep_of hdep 7 (by kernel_rfl)
                obtain rfl := hF.out.f7 hd7
                have hsm := hF.out.sm (no_later hF.out.p8 hd)
                have hwr := HWR.out
                clear hdep hd hd7
                intro K hK
                simp only [Act.put, List.setIfInBounds_toArray, List.set_cons_zero, List.set_cons_succ]
                go_simp
                refine hK.out _ _ ⟨x38, x39, x40, x41, x42, x43, x44, (.int .i64 z), (.int .i16 z), x47, x48, by simp only [Act.put, List.setIfInBounds_toArray, List.set_cons_zero, List.set_cons_succ], ?_⟩
                exact ⟨fun h => hF.out.f0 (by simpa using h), fun h => hF.out.f1 (by simpa using h), fun h => hF.out.f2 (by simpa using h), fun h => hF.out.f3 (by simpa using h), fun h => hF.out.f4 (by simpa using h), fun h => hF.out.f5 (by simpa using h), fun h => hF.out.f6 (by simpa using h), fun h => hF.out.f7 (by simpa using h), fun _ => rfl, fun h => hF.out.f9 (by simpa using h), fun h => hF.out.f10 (by simpa using h), fun h => hF.out.f11 (by simpa using h), fun h => by have := hF.out.p0 (by simpa using h); simpa using this, fun h => by have := hF.out.p1 (by simpa using h); simpa using this, fun h => by have := hF.out.p2 (by simpa using h); simpa using this, fun h => by have := hF.out.p3 (by simpa using h); simpa using this, fun h => by have := hF.out.p4 (by simpa using h); simpa using this, fun h => by have := hF.out.p5 (by simpa using h); simpa using this, fun h => by have := hF.out.p6 (by simpa using h); simpa using this, fun h => by have := hF.out.p7 (by simpa using h); simpa using this, fun _ => by simp, fun h => by have := hF.out.p9 (by simpa using h); simpa using this, fun h => by have := hF.out.p10 (by simpa using h); simpa using this, fun h => by have := hF.out.q (by simpa using h); simpa using this, fun _ => hsm, fun h => hF.out.fin (by simpa using h)⟩
              · intro d a W hI hd hdep
                obtain ⟨x38, x39, x40, x41, x42, x43, x44, x45, x46, x47, x48, rfl, hF⟩ := hI
                have hd1 : d 1 = true := dep_of hdep 1 (by kernel_rfl)
                have hd2 : d 2 = true := dep_of hdep 2 (by kernel_rfl)
                obtain rfl := hF.out.f1 hd1
                obtain rfl := hF.out.f2 hd2
                have hsm := hF.out.sm (no_later hF.out.p9 hd)
                clear hdep hd hd1 hd2
                intro K hK
                simp only [Act.put, List.setIfInBounds_toArray, List.set_cons_zero, List.set_cons_succ]
                go_simp
                refine hK.out _ _ ⟨x38, (.slice (some ⟨gr, 0, none⟩) n n), (.int .i64 (k : Int)), x41, x42, x43, x44, x45, x46, (.pointer (some ⟨gr, k * 256, none⟩)), x48, by simp only [Act.put, List.setIfInBounds_toArray, List.set_cons_zero, List.set_cons_succ], ?_⟩
                exact ⟨fun h => hF.out.f0 (by simpa using h), fun h => hF.out.f1 (by simpa using h), fun h => hF.out.f2 (by simpa using h), fun h => hF.out.f3 (by simpa using h), fun h => hF.out.f4 (by simpa using h), fun h => hF.out.f5 (by simpa using h), fun h => hF.out.f6 (by simpa using h), fun h => hF.out.f7 (by simpa using h), fun h => hF.out.f8 (by simpa using h), fun _ => rfl, fun h => hF.out.f10 (by simpa using h), fun h => hF.out.f11 (by simpa using h), fun h => by have := hF.out.p0 (by simpa using h); simpa using this, fun h => by have := hF.out.p1 (by simpa using h); simpa using this, fun h => by have := hF.out.p2 (by simpa using h); simpa using this, fun h => by have := hF.out.p3 (by simpa using h); simpa using this, fun h => by have := hF.out.p4 (by simpa using h); simpa using this, fun h => by have := hF.out.p5 (by simpa using h); simpa using this, fun h => by have := hF.out.p6 (by simpa using h); simpa using this, fun h => by have := hF.out.p7 (by simpa using h); simpa using this, fun h => by have := hF.out.p8 (by simpa using h); simpa using this, fun _ => by simp, fun h => by have := hF.out.p10 (by simpa using h); simpa using this, fun _ => by simp, fun _ => hsm, fun h => hF.out.fin (by simpa using h)⟩
              · intro d a W hI hd hdep
                obtain ⟨x38, x39, x40, x41, x42, x43, x44, x45, x46, x47, x48, rfl, hF⟩ := hI
                have hd9 : d 9 = true := dep_of hdep 9 (by kernel_rfl)
                have hd3 : d 3 = true := dep_of hdep 3 (by kernel_rfl)
                obtain rfl := hF.out.f9 hd9
                obtain rfl := hF.out.f3 hd3
                have hsm := hF.out.sm (no_later hF.out.p10 hd)
                have hd9b := hd9
                clear hdep hd hd9 hd3
                intro K hK
                simp only [Act.put, List.setIfInBounds_toArray, List.set_cons_zero, List.set_cons_succ]
                go_simp
                refine hK.out _ _ ⟨x38, x39, x40, (.int .i64 (j : Int)), x42, x43, x44, x45, x46, (.pointer (some ⟨gr, k * 256, none⟩)), (.pointer (some ⟨gr, k * 256 + j, none⟩)), by simp only [Act.put, List.setIfInBounds_toArray, List.set_cons_zero, List.set_cons_succ], ?_⟩
                exact ⟨fun h => hF.out.f0 (by simpa using h), fun h => hF.out.f1 (by simpa using h), fun h => hF.out.f2 (by simpa using h), fun h => hF.out.f3 (by simpa using h), fun h => hF.out.f4 (by simpa using h), fun h => hF.out.f5 (by simpa using h), fun h => hF.out.f6 (by simpa using h), fun h => hF.out.f7 (by simpa using h), fun h => hF.out.f8 (by simpa using h), fun h => hF.out.f9 (by simpa using h), fun _ => rfl, fun h => hF.out.f11 (by simpa using h), fun h => by have := hF.out.p0 (by simpa using h); simpa using this, fun h => by have := hF.out.p1 (by simpa using h); simpa using this, fun h => by have := hF.out.p2 (by simpa using h); simpa using this, fun h => by have := hF.out.p3 (by simpa using h); simpa using this, fun h => by have := hF.out.p4 (by simpa using h); simpa using this, fun h => by have := hF.out.p5 (by simpa using h); simpa using this, fun h => by have := hF.out.p6 (by simpa using h); simpa using this, fun h => by have := hF.out.p7 (by simpa using h); simpa using this, fun h => by have := hF.out.p8 (by simpa using h); simpa using this, fun h => by have := hF.out.p9 (by simpa using h); simpa using this, fun _ => by simp, fun _ => by simpa using hd9b, fun _ => hsm, fun h => hF.out.fin (by simpa using h)⟩
              · intro d a W hI hd hdep
                obtain ⟨x38, x39, x40, x41, x42, x43, x44, x45, x46, x47, x48, rfl, hF⟩ := hI
                have hd10 : d 10 = true := dep_of hdep 10 (by kernel_rfl)
                have hd8 : d 8 = true := dep_of hdep 8 (by kernel_rfl)
                have hd0 : d 0 = true := dep_of hdep 0 (by kernel_rfl)
                have hd1 : d 1 = true := dep_of hdep 1 (by kernel_rfl)
                have hd2 : d 2 = true := dep_of hdep 2 (by kernel_rfl)
                have hd3 : d 3 = true := dep_of hdep 3 (by kernel_rfl)
                have hd4 : d 4 = true := dep_of hdep 4 (by kernel_rfl)
                have hd5 : d 5 = true := dep_of hdep 5 (by kernel_rfl)
                have hd6 : d 6 = true := dep_of hdep 6 (by kernel_rfl)
                have hd7 : d 7 = true := dep_of hdep 7 (by kernel_rfl)
                obtain rfl := hF.out.f10 hd10
                obtain rfl := hF.out.f8 hd8
                obtain rfl := hF.out.f0 hd0
                obtain rfl := hF.out.f1 hd1
                obtain rfl := hF.out.f2 hd2
                obtain rfl := hF.out.f3 hd3
                obtain rfl := hF.out.f4 hd4
                obtain rfl := hF.out.f5 hd5
                obtain rfl := hF.out.f6 hd6
                obtain rfl := hF.out.f7 hd7
                have hsm := hF.out.sm hd
                have y0 := (hsm.cell _).trans d3
                have y1 := (hsm.frozen _).trans f1
                have hd9 := hF.out.q hd10
                have g0 := hd0
                have g1 := hd1
                have g2 := hd2
                have g3 := hd3
                have g4 := hd4
                have g5 := hd5
                have g6 := hd6
                have g7 := hd7
                have g8 := hd8
                have g9 := hd9
                have g10 := hd10
                clear hdep hd hd10 hd8 hd0 hd1 hd2 hd3 hd4 hd5 hd6 hd7
                intro K hK
                simp only [Act.put, List.setIfInBounds_toArray, List.set_cons_zero, List.set_cons_succ]
                go_simp
                refine hK.out _ _ ⟨(.pointer (some ⟨gd, 0, none⟩)), (.slice (some ⟨gr, 0, none⟩) n n), (.int .i64 (k : Int)), (.int .i64 (j : Int)), (.slice (some ⟨bk, ok, none⟩) lk cp1), (.int .u8 (oj : Int)), (.pointer (some ⟨bk, ok + oj, none⟩)), (.int .i64 z), (.int .i16 z), x47, (.pointer (some ⟨gr, k * 256 + j, none⟩)), by simp only [Act.put, List.setIfInBounds_toArray, List.set_cons_zero, List.set_cons_succ], ?_⟩
                exact ⟨fun h => hF.out.f0 (by simpa using h), fun h => hF.out.f1 (by simpa using h), fun h => hF.out.f2 (by simpa using h), fun h => hF.out.f3 (by simpa using h), fun h => hF.out.f4 (by simpa using h), fun h => hF.out.f5 (by simpa using h), fun h => hF.out.f6 (by simpa using h), fun h => hF.out.f7 (by simpa using h), fun h => hF.out.f8 (by simpa using h), fun h => hF.out.f9 (by simpa using h), fun h => hF.out.f10 (by simpa using h), fun _ => trivial, fun _ => by simpa using g0, fun _ => by simpa using g1, fun _ => by simpa using g2, fun _ => by simpa using g3, fun _ => by simpa using g4, fun _ => by simpa using g5, fun _ => by simpa using g6, fun _ => by simpa using g7, fun _ => by simpa using g8, fun _ => by simpa using g9, fun _ => by simpa using g10, fun h => by have := hF.out.q (by simpa using h); simpa using this, fun h => by simp at h, fun _ => ⟨_, hsm, rfl⟩⟩
            · intro d a W hI hall
              obtain ⟨x38, x39, x40, x41, x42, x43, x44, x45, x46, x47, x48, rfl, hF⟩ := hI
              simp only [List.length_cons, List.length_nil] at hall
              obtain rfl := hF.out.f0 (hall 0 (by omega))
              obtain rfl := hF.out.f1 (hall 1 (by omega))
              obtain rfl := hF.out.f2 (hall 2 (by omega))
              obtain rfl := hF.out.f3 (hall 3 (by omega))
              obtain rfl := hF.out.f4 (hall 4 (by omega))
              obtain rfl := hF.out.f5 (hall 5 (by omega))
              obtain rfl := hF.out.f6 (hall 6 (by omega))
              obtain rfl := hF.out.f7 (hall 7 (by omega))
              obtain rfl := hF.out.f8 (hall 8 (by omega))
              obtain rfl := hF.out.f9 (hall 9 (by omega))
              obtain rfl := hF.out.f10 (hall 10 (by omega))
              obtain ⟨W6, hsm6, rfl⟩ := hF.out.fin (hall 11 (by omega))
              have HPW : Hid (Sm wr W6) := hsm6
              clear hF hall hsm6 c1 cx d3 f1
              simp only [Act.put, List.setIfInBounds_toArray, List.set_cons_zero, List.set_cons_succ]
              go_wp2_with fail
              go_roundw
              case rel =>
                refine ⟨j + 1, by omega, by go_num, _, HF.out.set HX0.out HT0.out ⟨HG.out.1, HG.out.2.1, HG.out.2.2.1⟩ HPW.out k j z hjt, fun x y hx hy => ?_, fun y hy => ?_⟩
                · rw [if_neg (by omega)]; exact HFE.out.1 x y hx hy
                · by_cases e : y = j
                  · subst e; rw [if_pos ⟨rfl, rfl⟩, HOJ.out, HZ.out]
                  · rw [if_neg (by omega)]; exact HFE.out.2 y (by omega)
              case measure => simp [intOf]; omega
          · go_wp2_with fail
            go_roundw
            case rel => exact ⟨k + 1, by omega, by go_num, F, HF.out, fun x y hx hy => by
              by_cases e : x = k
              · subst e; exact HFE.out.2 y (by omega)
              · exact HFE.out.1 x y (by omega) hy⟩
            case measure => simp [intOf]; omega
      · have e0 := HF.out.st.cell (i := 0) (by omega)
        have e1 := HF.out.st.cell (i := 1) (by omega)
        simp only [if_true] at e0
        rw [if_neg (by omega)] at e1
        have r0 := HF.out.rs.cell (i := 0) (by omega)
        have r1 := HF.out.rs.cell (i := 1) (by omega)
        have s0 := HF.out.rs.frozen 0
        have s1 := HF.out.rs.frozen 1
        have HKN : Hid (k = n) := by show _ = _; omega
        go_wp2_with fail
        have hrow := row_two_set HF.out.rs (.slice (some ⟨gr, 0, none⟩) n n) (.slice (some ⟨gt, 0, none⟩) n ct)
        have hsame := same_two wr (w.heap.size + 1) (.slice (some ⟨gr, 0, none⟩) n n) (.slice (some ⟨gt, 0, none⟩) n ct)
        have hc0 := hrow.cell (i := 0) (by omega)
        have hc1 := hrow.cell (i := 1) (by omega)
        simp only [if_true] at hc0
        rw [if_neg (by omega)] at hc1
        have hR := HF.out.rows.of_block (hsame.2.2.2.2 gr (by have := HG.out.1; omega))
        have hT : ∀ i, i < n → _ := fun i hi => (cell_same (hsame.2.2.2.2 gt (by have := HG.out.2.2.2.2; omega)) i).trans (HF.out.tags i hi)
        have hB := (HF.out.px.set HX0.out HT0.out (b := w.heap.size + 1) hsame (by omega) (by omega)).below
        have hlt2 : gt < wr.heap.size := HF.out.lt
        refine bodyPost_ret (v := .tuple #[.agg #[.slice (some ⟨gr, 0, none⟩) n n, .slice (some ⟨gt, 0, none⟩) n ct], .int .i64 0]) (by simp [results, Try.results21, go_sem, hc0, hc1]) rfl ⟨_, _, rfl, ⟨_, _, rfl, by omega, fun i j => ?_, Or.inr ⟨gr, 0, rfl, hR.lt, fun i hi j hj => ?_⟩⟩, ⟨_, _, rfl, by omega, HWF.out, Or.inr ⟨gt, 0, rfl, by rw [hsame.1]; exact hlt2, fun i hi => ?_⟩⟩, hB, fun g hg => by simp [Value.ownBlock] at hg; have := HG.out.1; omega, fun g hg => by simp [Value.ownBlock] at hg; have := HG.out.2.2.2.2; omega⟩
        · have hn2 := HN.out.2
          dsimp only
          split
          · rename_i h; have := HCO.out i j h.1 h.2; omega
          · omega
        · have q1 : i * 256 + j < n * 256 := by omega
          have q2 := hR.cell q1
          rw [show (i * 256 + j) / 256 = i by omega, show (i * 256 + j) % 256 = j by omega, HFE.out i j (by have := HKN.out; omega) hj] at q2
          dsimp only
          rw [show 0 + i * 256 + j = i * 256 + j by omega, if_pos ⟨hi, hj⟩]
          exact q2
        · rw [Nat.zero_add]; exact hT i hi

theorem unpack_ok (O : Nat → Nat) (nv tv : Value) (n : Nat) (L : Nat → Nat) (X : Nat → Nat → Int) (T : Nat → Int) (w : World) (hO : ∀ j, O j < 256) (hx : Nx w nv n L X) (ht : Ts w tv n T) (hok : chkP n n O L X T = 0) :
    Calls Try.prog 21 #[.agg (pl O nv tv).toArray] w fun e w' => ∃ rv tv', e = .returned (.tuple #[.agg #[rv, tv'], .int .i64 0]) ∧ Rw w' rv n (fun i j => if i < n ∧ j < 256 then X i (O j) else 0) ∧ Ts w' tv' n T ∧ Below w.heap.size w w' :=
  (unpack_own O nv tv n L X T w hO hx ht hok).mono fun _ _ ⟨rv, tv', h1, h2, h3, h4, _⟩ => ⟨rv, tv', h1, h2, h3, h4⟩
end Go.Proofs.Ytlmlkpdppkgenaa.Pk

namespace Go.Proofs.Ytlmlkpdppkgenaa.Pk
open Go.RowKit
open Dfa

set_option maxHeartbeats 1600000 in
set_option maxRecDepth 20000 in
theorem one_ok (O : Nat → Nat) (nv tv : Value) (m : Nat) (L : Nat → Nat) (X : Nat → Nat → Int) (T : Nat → Int) (s : ByteArray) (f : Nat) (w : World) (hO : ∀ j, O j < 256) (hx : Nx w nv m L X) (ht : Ts w tv m T) (hs0 : s.size ≤ 2000) (hok : chkP m m O L X T = 0) (hf : f ≤ s.size) :
    Calls Try.prog 20 #[.agg (pl O nv tv).toArray, .string s, .int .i64 (f : Int)] w fun e w' => (∃ (a b c : Int) (bb : Bool), e = .returned (.tuple #[.agg #[.int .i64 a, .int .i64 b, .int .i64 c], .bool bb, .int .i64 0]) ∧ Tv f (lng (RR m O X) T (s.data.toList.drop f)).1 (lng (RR m O X) T (s.data.toList.drop f)).2 bb a b c) ∧ Below w.heap.size w w' := by
  have hs : s.size ≤ 9223372036854775807 := by omega
  have hc : chkS m m O L X T s.size = 0 := by unfold chkS; rw [if_pos hok, if_neg (by omega)]
  obtain ⟨l, HLL⟩ : ∃ l, Hid (pl O nv tv = l) := ⟨_, (rfl : pl O nv tv = pl O nv tv)⟩
  have HP : Hid (Px w w.heap.size O nv tv m m L X T l ((w.alloc (Obj.cells l.toArray 54)).alloc (Obj.cells #[.int .i64 0, .int .i64 0, .int .i64 0] 60))) := (Px.box HLL.out hx ht).step ((Below.refl _ _).alloc (Nat.le_refl _) _)
  have HI : Hid (((w.alloc (Obj.cells l.toArray 54)).alloc (Obj.cells #[.int .i64 0, .int .i64 0, .int .i64 0] 60)).rangeAt w.heap.size 0 l) := by show World.rangeAt _ _ _ _; rw [← HLL.out]; exact HLL.out ▸ HP.out.all
  have HBK : Hid (((w.alloc (Obj.cells l.toArray 54)).alloc (Obj.cells #[.int .i64 0, .int .i64 0, .int .i64 0] 60)).heap[w.heap.size + 1]? = some (.cells #[.int .i64 0, .int .i64 0, .int .i64 0] 60 (0, 0))) := by
    have := heap_alloc_new (w.alloc (Obj.cells l.toArray 54)) (Obj.cells #[.int .i64 0, .int .i64 0, .int .i64 0] 60)
    rwa [World.size_alloc] at this
  have HQ : Hid (Calls Try.prog 42 #[.agg l.toArray, .string s] ((w.alloc (Obj.cells l.toArray 54)).alloc (Obj.cells #[.int .i64 0, .int .i64 0, .int .i64 0] 60)) fun e w' => e = .returned (.int .i64 (chkS m m O L X T s.size)) ∧ Below ((w.alloc (Obj.cells l.toArray 54)).alloc (Obj.cells #[.int .i64 0, .int .i64 0, .int .i64 0] 60)).heap.size ((w.alloc (Obj.cells l.toArray 54)).alloc (Obj.cells #[.int .i64 0, .int .i64 0, .int .i64 0] 60)) w') := by
    have := checkS_any O nv tv m m L X T s ((w.alloc (Obj.cells l.toArray 54)).alloc (Obj.cells #[.int .i64 0, .int .i64 0, .int .i64 0] 60)) hO HP.out.next HP.out.tags hs
    rw [HLL.out] at this
    exact this
  have HS : Hid ((Try.prog.info? 54).map (·.size) = some l.length) := by show _ = _; rw [← HLL.out, pl_length]; exact size47
  have hsz : w.heap.size + 1 < ((w.alloc (Obj.cells l.toArray 54)).alloc (Obj.cells #[.int .i64 0, .int .i64 0, .int .i64 0] 60)).heap.size := by simp
  have HX0 : Hid (Nx w nv m L X) := hx
  have HT0 : Hid (Ts w tv m T) := ht
  have HLG : Hid (∀ (wr : World), Px w w.heap.size O nv tv m m L X T l wr → Calls Try.prog 43 #[.agg l.toArray, .string s, .int .i64 (f : Int)] wr fun e w' => Tok f (lng (RR m O X) T (s.data.toList.drop f)) e ∧ Below wr.heap.size wr w') := fun wr h => by
    have := long_any O nv tv m L X T s f wr hO h.next h.tags hok hs0 hf
    rw [HLL.out] at this
    exact this
  obtain ⟨ans, HA⟩ : ∃ a, Hid (lng (RR m O X) T (s.data.toList.drop f) = a) := ⟨_, (rfl : lng _ _ _ = lng _ _ _)⟩
  rw [HA.out] at HLG ⊢
  have HR : Hid (∀ wr, Px w w.heap.size O nv tv m m L X T l wr → wr.rangeAt w.heap.size 0 l) := fun wr h => by rw [← HLL.out]; exact h.all
  rw [HLL.out]
  obtain ⟨c, HC⟩ : ∃ c, Hid (chkS m m O L X T s.size = c) := ⟨_, (rfl : chkS m m O L X T s.size = chkS m m O L X T s.size)⟩
  rw [HC.out] at HQ hc
  clear hx ht hO
  go_enter Try.func20, Try.ntmps20
  go_wp2_with (refine wpList_load_mid rfl 54 _ rfl w.heap.size 0 rfl l _ HI.out Try.underlying54 rfl HS.out ?_)
  refine HQ.out.mono ?_
  rintro _ w1 ⟨rfl, hb1⟩
  have HP1 : Hid (Px w w.heap.size O nv tv m m L X T l w1) := HP.out.step hb1
  have HB : Hid (w1.heap[w.heap.size + 1]? = some (.cells #[.int .i64 0, .int .i64 0, .int .i64 0] 60 (0, 0))) := (hb1.block _ hsz).trans HBK.out
  have hs1 : w.heap.size + 1 < w1.heap.size := Nat.lt_of_lt_of_le hsz hb1.size
  clear hb1 HQ HI HBK HP hsz
  subst hc
  have h1 : ¬ (f : Int) < 0 := by omega
  have h2 : ¬ (s.size : Int) < (f : Int) := by omega
  have HI1 : Hid (w1.rangeAt w.heap.size 0 l) := HR.out w1 HP1.out
  go_wp2_with (refine wpList_load_mid rfl 54 _ rfl w.heap.size 0 rfl l _ HI1.out Try.underlying54 rfl HS.out ?_)
  refine (HLG.out w1 HP1.out).mono ?_
  rintro _ w2 ⟨⟨ta, tb, tcc, bb, rfl, hv⟩, hb2⟩
  have HP2 : Hid (Px w w.heap.size O nv tv m m L X T l (w2.alloc (Obj.cells #[.int .i64 ta, .int .i64 tb, .int .i64 tcc] 60))) := (HP1.out.step hb2).step ((Below.refl _ _).alloc (Nat.le_refl _) _)
  have HB2 : Hid (w2.heap[w.heap.size + 1]? = some (.cells #[.int .i64 0, .int .i64 0, .int .i64 0] 60 (0, 0))) := (hb2.block _ hs1).trans HB.out
  have hs2 : w.heap.size + 1 < w2.heap.size := Nat.lt_of_lt_of_le hs1 hb2.size
  have HV : Hid (Tv f ans.1 ans.2 bb ta tb tcc) := hv
  clear hb2 HB hv
  have HB := HB2
  go_upto_region 7 with fail
  have HBN : Hid ((w2.alloc (Obj.cells #[.int .i64 ta, .int .i64 tb, .int .i64 tcc] 60)).heap[w.heap.size + 1]? = some (.cells #[.int .i64 0, .int .i64 0, .int .i64 0] 60 (0, 0))) := (((Below.refl w2.heap.size w2).alloc (Nat.le_refl _) _).block _ hs2).trans HB.out
  have HBM : Hid ((w2.alloc (Obj.cells #[.int .i64 ta, .int .i64 tb, .int .i64 tcc] 60)).heap[w2.heap.size]? = some (.cells #[.int .i64 ta, .int .i64 tb, .int .i64 tcc] 60 (0, 0))) := heap_alloc_new w2 _
  generalize w2.alloc (Obj.cells #[.int .i64 ta, .int .i64 tb, .int .i64 tcc] 60) = W3 at HBN HBM HP2 ⊢
  clear HB HB2
  have HB := HBN
  have q0 := block_cell HBM.out 0
  have q1 := block_cell HBM.out 1
  have q2 := block_cell HBM.out 2
  simp only [List.getElem?_toArray, List.getElem?_cons_zero, List.getElem?_cons_succ] at q0 q1 q2
  have x0 := block_cell HB.out 0
  have x1 := block_cell HB.out 1
  have x2 := block_cell HB.out 2
  have f0 := block_free HB.out 0
  have f1 := block_free HB.out 1
  have f2 := block_free HB.out 2
  simp only [List.getElem?_toArray, List.getElem?_cons_zero, List.getElem?_cons_succ] at x0 x1 x2
  go_wp2_with fail
  have y0 := block_cell (three (w := W3) HB.out (.int .i64 ta) (.int .i64 tb) (.int .i64 tcc)) 0
  have y1 := block_cell (three (w := W3) HB.out (.int .i64 ta) (.int .i64 tb) (.int .i64 tcc)) 1
  have y2 := block_cell (three (w := W3) HB.out (.int .i64 ta) (.int .i64 tb) (.int .i64 tcc)) 2
  simp only [List.getElem?_toArray, List.getElem?_cons_zero, List.getElem?_cons_succ] at y0 y1 y2
  exact bodyPost_ret (v := .tuple #[.agg #[.int .i64 ta, .int .i64 tb, .int .i64 tcc], .bool bb, .int .i64 0]) (by simp [results, Try.results20, go_sem, y0, y1, y2]) rfl ⟨⟨ta, tb, tcc, bb, rfl, HV.out⟩, (HP2.out.set HX0.out HT0.out (same_three _ (w.heap.size + 1) _ _ _) (by omega) (by omega)).below⟩
end Go.Proofs.Ytlmlkpdppkgenaa.Pk

namespace Go.Proofs.Ytlmlkpdppkgenaa
open Go.RowKit
open Cls Po Rex Dm

def abR' : Nat → Nat → Int := fun i j => if i < 5 ∧ j < 256 then abR i j else 0
theorem ab_RR : Pk.RR 5 (Pk.ofp 5 abR) (fun i t => abR i ((Pk.fsts 5 abR 256).getD t 0)) = abR' := by
  funext i j
  unfold Pk.RR abR'
  by_cases h : i < 5 ∧ j < 256
  · rw [if_pos h, if_pos h]; exact (Pk.ofp_at 5 abR h.2).2 i h.1
  · rw [if_neg h, if_neg h]
/-- Tokens in memory. -/
def Tks (W : World) (v : Value) (fs : List (Int × Nat × Nat)) : Prop :=
  ∃ ao cap, v = .slice ao fs.length cap ∧ (fs = [] ∨ ∃ g, ao = some ⟨g, 0, none⟩ ∧ g < W.heap.size ∧ ∀ i (hi : i < fs.length), W.cell? ⟨g, i * 3, none⟩ = some (.int .i64 fs[i].1) ∧ W.cell? ⟨g, i * 3 + 1, none⟩ = some (.int .i64 (fs[i].2.1 : Int)) ∧ W.cell? ⟨g, i * 3 + 2, none⟩ = some (.int .i64 (fs[i].2.2 : Int)))
theorem tks_own {W : World} {B : Nat} {v : Value} {fs : List (Int × Nat × Nat)} (h : W.ownsRow B 60 3 v fs.length (Pk.tcs fs)) : Tks W v fs := by
  obtain ⟨hl, ⟨h1, h2⟩ | ⟨g, cap, cur, hv, hg, hh, hn, hc, hs, ht⟩⟩ := h
  · exact ⟨none, 0, by rw [h1, h2], Or.inl (List.length_eq_zero_iff.1 h2)⟩
  · refine ⟨_, cap, hv, Or.inr ⟨g, rfl, (Array.getElem?_eq_some_iff.1 hh).1, fun i hi => ?_⟩⟩
    have hat := Pk.tcs_at fs i hi
    have hc : ∀ j u, (Pk.tcs fs)[j]? = some u → W.cell? ⟨g, j, none⟩ = some u := fun j u hu => by
      have hj := (List.getElem?_eq_some_iff.1 hu).1
      rw [Pk.tcs_length] at hj
      rw [← ht, List.getElem?_take_of_lt (by omega)] at hu
      have e1 : W.cell? ⟨g, j, none⟩ = cur[j]? := by simp [World.cell?, hh]
      rw [e1]
      simpa using hu
    exact ⟨hc _ _ hat.1, hc _ _ hat.2.1, hc _ _ hat.2.2⟩
theorem Tks.next {W W' : World} {v : Value} {fs : List (Int × Nat × Nat)} (h : Tks W v fs) (hb : Below W.heap.size W W') : Tks W' v fs := by
  obtain ⟨ao, cap, hv, h | ⟨g, h1, h2, h3⟩⟩ := h
  · exact ⟨ao, cap, hv, Or.inl h⟩
  · exact ⟨ao, cap, hv, Or.inr ⟨g, h1, Nat.lt_of_lt_of_le h2 hb.size, fun i hi => ⟨(hb.cell (p := ⟨g, i * 3, none⟩) h2).trans (h3 i hi).1, (hb.cell (p := ⟨g, i * 3 + 1, none⟩) h2).trans (h3 i hi).2.1, (hb.cell (p := ⟨g, i * 3 + 2, none⟩) h2).trans (h3 i hi).2.2⟩⟩⟩
/-- One behind the other, from p to q. -/
def ch : Nat → List (Int × Nat × Nat) → Nat → Prop
  | p, [], q => p = q
  | p, t :: l, q => t.2.1 = p ∧ p < t.2.2 ∧ ch t.2.2 l q
theorem ch_le : ∀ (l : List (Int × Nat × Nat)) (p q : Nat), ch p l q → p + l.length ≤ q
  | [], _, _, h => by have : _ = _ := h; simp; omega
  | t :: l, p, q, h => by have := ch_le l t.2.2 q h.2.2; have := h.2.1; simp; omega
theorem tk_ch (R : Nat → Nat → Int) (T : Nat → Int) (s : List UInt8) : ∀ f p, p ≤ s.length → s.length ≤ p + f → ((Pk.Dfa.tk R T s f p).2 = none ∧ ch p (Pk.Dfa.tk R T s f p).1 s.length) ∨ ∃ q, (Pk.Dfa.tk R T s f p).2 = some q ∧ q < s.length ∧ ch p (Pk.Dfa.tk R T s f p).1 q
  | 0, p, h1, h2 => Or.inl ⟨rfl, by show p = s.length; omega⟩
  | f + 1, p, h1, h2 => by
    by_cases h : s.length ≤ p
    · rw [Pk.Dfa.tk_end h]; exact Or.inl ⟨rfl, by show p = s.length; omega⟩
    · by_cases hz : (Pk.Dfa.lng R T (s.drop p)).2 = 0
      · rw [Pk.Dfa.tk_bad (by omega) h2 hz]; exact Or.inr ⟨p, rfl, by omega, rfl⟩
      · have hl := Pk.Dfa.lng_le R T (s.drop p)
        rw [List.length_drop] at hl
        have ih := tk_ch R T s f (p + (Pk.Dfa.lng R T (s.drop p)).2) (by omega) (by omega)
        rw [Pk.Dfa.tk, if_neg h, if_neg hz]
        rcases ih with ⟨a, b⟩ | ⟨q, a, b, c⟩
        · exact Or.inl ⟨a, rfl, by show p < p + _; omega, b⟩
        · exact Or.inr ⟨q, a, b, rfl, by show p < p + _; omega, c⟩
theorem all_ch (R : Nat → Nat → Int) (T : Nat → Int) (s : List UInt8) : ((Pk.Dfa.all R T s).2 = none ∧ ch 0 (Pk.Dfa.all R T s).1 s.length) ∨ ∃ q, (Pk.Dfa.all R T s).2 = some q ∧ q < s.length ∧ ch 0 (Pk.Dfa.all R T s).1 q := tk_ch R T s s.length 0 (by omega) (by omega)
theorem chkS_nine (n m : Nat) (O L : Nat → Nat) (X : Nat → Nat → Int) (T : Nat → Int) (k : Nat) : Pk.chkS n m O L X T k ≠ 9 := by
  unfold Pk.chkS Pk.Dfa.chkP
  repeat' split
  all_goals omega
end Go.Proofs.Ytlmlkpdppkgenaa

namespace Go.Proofs.Ytlmlkpdppkgenaa.Pk.Dfa

/-- What lg answers: what was found so far, and nothing further; or what the last of the beginnings with a Tag has. -/
theorem lg_says (R : Nat → Nat → Int) (T : Nat → Int) (l : List UInt8) : ∀ q i r z,
    (lg R T q i r z l = (r, z) ∧ ∀ k, 0 < k → k ≤ l.length → tagOf T (goes R (q : Int) (l.take k)) < 0) ∨
    ∃ k, 0 < k ∧ k ≤ l.length ∧ lg R T q i r z l = (tagOf T (goes R (q : Int) (l.take k)), i + k) ∧ 0 ≤ tagOf T (goes R (q : Int) (l.take k)) ∧ ∀ k', k < k' → k' ≤ l.length → tagOf T (goes R (q : Int) (l.take k')) < 0 := by
  induction l with
  | nil => intro q i r z; exact Or.inl ⟨rfl, fun k h1 h2 => by simp at h2; omega⟩
  | cons b l ih =>
    intro q i r z
    have hg : ∀ k, goes R (q : Int) ((b :: l).take (k + 1)) = goes R (R q b.toNat) (l.take k) := fun k => by
      rw [List.take_succ_cons]
      show (l.take k).foldl (step R) (step R (q : Int) b) = _
      unfold step
      rw [if_neg (by omega), Int.toNat_natCast]
      rfl
    by_cases hn : R q b.toNat < 0
    · refine Or.inl ⟨by rw [lg, if_pos hn], fun k h1 h2 => ?_⟩
      obtain ⟨k, rfl⟩ : ∃ j, k = j + 1 := ⟨k - 1, by omega⟩
      rw [hg, goes_neg R _ hn]
      unfold tagOf
      rw [if_pos hn]; omega
    · have hq : ((R q b.toNat).toNat : Int) = R q b.toNat := by omega
      have hh : tagOf T (goes R (q : Int) ((b :: l).take 1)) = T (R q b.toNat).toNat := by
        rw [show (1 : Nat) = 0 + 1 from rfl, hg]
        show tagOf T (R q b.toNat) = _
        unfold tagOf
        rw [if_neg hn]
      by_cases ht : T (R q b.toNat).toNat < 0
      · rcases ih (R q b.toNat).toNat (i + 1) r z with ⟨h1, h2⟩ | ⟨k, h0, h1, h2, h3, h4⟩
        · refine Or.inl ⟨by rw [lg, if_neg hn, if_pos ht]; exact h1, fun k g1 g2 => ?_⟩
          by_cases hk : k = 1
          · subst hk; rw [hh]; exact ht
          · obtain ⟨k, rfl⟩ : ∃ j, k = j + 1 := ⟨k - 1, by omega⟩
            rw [hg, ← hq]; exact h2 k (by omega) (by simp at g2; omega)
        · refine Or.inr ⟨k + 1, by omega, by simp; omega, ?_, ?_, fun k' g1 g2 => ?_⟩
          · rw [lg, if_neg hn, if_pos ht, h2, hg, hq]; congr 1; omega
          · rw [hg, ← hq]; exact h3
          · obtain ⟨k', rfl⟩ : ∃ j, k' = j + 1 := ⟨k' - 1, by omega⟩
            rw [hg, ← hq]; exact h4 k' (by omega) (by simp at g2; omega)
      · rcases ih (R q b.toNat).toNat (i + 1) (T (R q b.toNat).toNat) (i + 1) with ⟨h1, h2⟩ | ⟨k, h0, h1, h2, h3, h4⟩
        · refine Or.inr ⟨1, by omega, by simp, ?_, ?_, fun k' g1 g2 => ?_⟩
          · rw [lg, if_neg hn, if_neg ht, h1, hh]
          · rw [hh]; omega
          · obtain ⟨k', rfl⟩ : ∃ j, k' = j + 1 := ⟨k' - 1, by omega⟩
            rw [hg, ← hq]; exact h2 k' (by omega) (by simp at g2; omega)
        · refine Or.inr ⟨k + 1, by omega, by simp; omega, ?_, ?_, fun k' g1 g2 => ?_⟩
          · rw [lg, if_neg hn, if_neg ht, h2, hg, hq]; congr 1; omega
          · rw [hg, ← hq]; exact h3
          · obtain ⟨k', rfl⟩ : ∃ j, k' = j + 1 := ⟨k' - 1, by omega⟩
            rw [hg, ← hq]; exact h4 k' (by omega) (by simp at g2; omega)
/-- A token: its text's Tag is its rule, no longer text from there on has one. -/
def Good (R : Nat → Nat → Int) (T : Nat → Int) (s : List UInt8) (t : Int × Nat × Nat) : Prop :=
  t.2.1 < t.2.2 ∧ t.2.2 ≤ s.length ∧ t.1 = tagOf T (goes R 0 ((s.drop t.2.1).take (t.2.2 - t.2.1))) ∧ 0 ≤ t.1 ∧ ∀ b, t.2.2 < b → b ≤ s.length → tagOf T (goes R 0 ((s.drop t.2.1).take (b - t.2.1))) < 0
theorem lng_good {R : Nat → Nat → Int} {T : Nat → Int} {s : List UInt8} {p : Nat} (hz : ¬ (lng R T (s.drop p)).2 = 0) : Good R T s ((lng R T (s.drop p)).1, p, p + (lng R T (s.drop p)).2) := by
  rcases lg_says R T (s.drop p) 0 0 0 0 with ⟨h1, -⟩ | ⟨k, h0, h1, h2, h3, h4⟩
  · exact absurd (by unfold lng; rw [h1]) hz
  · have e : lng R T (s.drop p) = (tagOf T (goes R 0 ((s.drop p).take k)), k) := by unfold lng; rw [h2, Nat.zero_add]; rfl
    rw [e]
    rw [List.length_drop] at h1 h4
    refine ⟨by show p < p + k; omega, by show p + k ≤ _; omega, ?_, h3, fun b g1 g2 => ?_⟩
    · show _ = tagOf T (goes R 0 ((s.drop p).take (p + k - p)))
      rw [Nat.add_sub_cancel_left]
    · exact h4 (b - p) (by have : p + k < b := g1; omega) (by omega)
theorem tk_good (R : Nat → Nat → Int) (T : Nat → Int) (s : List UInt8) : ∀ f p, ∀ t ∈ (tk R T s f p).1, Good R T s t
  | 0, p => fun t ht => by simp [tk] at ht
  | f + 1, p => fun t ht => by
    unfold tk at ht
    by_cases h : s.length ≤ p
    · rw [if_pos h] at ht; simp at ht
    · rw [if_neg h] at ht
      by_cases hz : (lng R T (s.drop p)).2 = 0
      · rw [if_pos hz] at ht; simp at ht
      · rw [if_neg hz] at ht
        rcases List.mem_cons.1 ht with rfl | ht
        · exact lng_good hz
        · exact tk_good R T s f _ t ht
/-- What is unpacked is a right automaton. -/
theorem unpack_chk {n : Nat} {O L : Nat → Nat} {X : Nat → Nat → Int} {T : Nat → Int} (h : chkP n n O L X T = 0) : chk n n (RR n O X) T = 0 := by
  obtain ⟨h0, h1, -, h2, h3, h4⟩ := chkP_zero h
  obtain ⟨g1, g2, g3⟩ := cols_at h2
  have hr : rowsOk n (RR n O X) = true := all_true fun i hi => all_true fun j hj => by
    have := states_at h3 i (O j) hi (by rw [g1 i hi]; exact g3 j hj)
    unfold numOk RR
    rw [if_pos ⟨hi, hj⟩]
    simp; omega
  have ht : tagsOk n T = true := all_true fun i hi => by
    have := up_at h4 i hi
    unfold tagOk
    simp; omega
  unfold chk
  rw [if_neg (by omega), if_neg (by omega), if_pos ⟨hr, ht⟩]
end Go.Proofs.Ytlmlkpdppkgenaa.Pk.Dfa

namespace Go.Proofs.Ytlmlkpdppkgenaa
open Go.RowKit
def Sb (w W : World) : Prop := Below w.heap.size w W
theorem Sb.next {w : World} (W W' : World) (h : Sb w W) (hb : Below W.heap.size W W') : Sb w W' := Below.trans h (hb.mono (Below.size h))
theorem Sb.drew (w : World) : Sb w w.drew := ⟨rfl, rfl, rfl, Nat.le_refl _, fun _ _ => rfl⟩
/-- A token's box. -/
structure Pk.T3 (g : Nat) (r : Int) (a b : Nat) (W : World) : Prop where
  c0 : W.cell? ⟨g, 0, none⟩ = some (.int .i64 r)
  c1 : W.cell? ⟨g, 1, none⟩ = some (.int .i64 (a : Int))
  c2 : W.cell? ⟨g, 2, none⟩ = some (.int .i64 (b : Int))
  lt : g < W.heap.size
theorem Pk.T3.next {g : Nat} {r : Int} {a b : Nat} {W W' : World} (h : Pk.T3 g r a b W) (hb : Below W.heap.size W W') : Pk.T3 g r a b W' := ⟨(hb.cell (p := ⟨g, 0, none⟩) h.lt).trans h.c0, (hb.cell (p := ⟨g, 1, none⟩) h.lt).trans h.c1, (hb.cell (p := ⟨g, 2, none⟩) h.lt).trans h.c2, Nat.lt_of_lt_of_le h.lt hb.size⟩
theorem Pk.T3.box (W : World) (r : Int) (a b : Nat) : Pk.T3 W.heap.size r a b (W.alloc (Obj.cells #[.int .i64 r, .int .i64 (a : Int), .int .i64 (b : Int)] 60)) := ⟨by simp, by simp, by simp, by simp⟩
open Cls Po Rex Dm

theorem ab_one : Pk.Dfa.lng abR' abG [97, 98] = (1, 2) := by decide +kernel
/-- One of abc at "ab". -/
theorem one_abc {nv tv : Value} (s : ByteArray) (w : World) (hs : s.data.toList = [97, 98]) (hx : Pk.Nx w nv 5 (fun _ => (Pk.fsts 5 abR 256).length) (fun i t => abR i ((Pk.fsts 5 abR 256).getD t 0))) (ht : Pk.Ts w tv 5 abG) (hc : Pk.Dfa.chk 5 5 abR abG = 0) :
    Calls Try.prog 20 #[.agg (Pk.pl (Pk.ofp 5 abR) nv tv).toArray, .string s, .int .i64 0] w fun e w' => e = .returned (.tuple #[.agg #[.int .i64 1, .int .i64 0, .int .i64 2], .bool true, .int .i64 0]) ∧ Below w.heap.size w w' := by
  have hz : s.size ≤ 2000 := by
    have : s.data.toList.length = s.size := by rw [Array.length_toList]; rfl
    rw [hs] at this
    simp at this; omega
  refine (Pk.one_ok (Pk.ofp 5 abR) nv tv 5 _ _ abG s 0 w (Pk.ofp_lt 5 abR) hx ht hz (Pk.pack_right hc) (by omega)).mono fun e w' h => ?_
  obtain ⟨⟨a, b, c, bb, rfl, hv⟩, hb⟩ := h
  rw [ab_RR, hs, List.drop_zero, ab_one] at hv
  refine ⟨?_, hb⟩
  rcases hv with ⟨h, -⟩ | ⟨-, h1, h2, h3, h4⟩
  · simp at h
  · subst h1 h2 h3 h4; rfl
theorem ext_data (s : ByteArray) (a b : Nat) : (s.extract a b).data.toList = (s.data.toList.drop a).take (b - a) := by
  rw [ByteArray.data_extract, Array.toList_extract, List.extract_eq_take_drop]
theorem ext_size (s : ByteArray) (a b : Nat) (h : b ≤ s.size) : (s.extract a b).size ≤ s.size := by
  rw [ByteArray.size_extract]; omega
end Go.Proofs.Ytlmlkpdppkgenaa
