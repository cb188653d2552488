/-
  The contract of places.layNode: at a star, and at two nodes in a row.
-/
import Derived.Test.YtlmlkpdppkgenaaPmNode1
namespace Go.Proofs.Ytlmlkpdppkgenaa
open Go.RowKit
open Cls Po Rex

theorem link_st {base gp B1 B2 : Nat} {v V : Nat → Value} {p : P} {fr tl : List Int} {vf vt : Value} {w : World} (h : Pm base gp v V p w) (hf : Rk gp v V p.follow.length B1 vf fr w) (ht : Rk gp v V p.follow.length B2 vt tl w)
    (hfn : ∀ x ∈ fr, 0 ≤ x ∧ x < (p.follow.length : Int)) (htn : ∀ x ∈ tl, 0 ≤ x ∧ x < ((3000 : Nat) : Int)) (hfi : Pm.Fine 3000 p.follow) (hl : p.follow.length ≤ 3000) (h1 : fr.length ≤ 3000) (h2 : tl.length ≤ 3000) :
    Calls Try.prog 84 #[(.pointer (some ⟨gp, 0, none⟩)), vf, vt] w fun e w' => e = .returned (.tuple #[]) ∧ ∃ V', St base gp v V p.follow.length w (⟨p.cls, p.rules, p.first, Pm.link tl fr p.follow, p.last, p.empty⟩ : P) v V' w' := by
  refine (link_any base gp v V p fr tl vf vt w h hf.i ht.i (fun q hq => (hf.b q hq).2.2) (fun q hq => (ht.b q hq).2.2) hfn (by omega) (fun k i => ?_) (by omega) (by omega)).mono ?_
  · have := (Pm.fine_getD (Pm.fine_link htn (fr.take k) p.follow hfi) i).2; omega
  · rintro _ w' ⟨rfl, V', h3, h4, h5⟩
    refine ⟨rfl, V', h3, h4, fun q hq => ?_⟩
    simp only [Pm.link_length] at hq
    exact h5 q hq
/-- A box of three that is none of it stays. -/
theorem box_kept {base gp : Nat} {v V v1 V1 : Nat → Value} {m : Nat} {w w1 : World} {p1 : P} {g : Nat} {o : Obj} (h : St base gp v V m w p1 v1 V1 w1) (hb : w.heap[g]? = some o) (hn : ¬ Own gp v V m g) : w1.heap[g]? = some o ∧ ¬ Own gp v1 V1 p1.follow.length g := by
  have hlt : g < w.heap.size := (Array.getElem?_eq_some_iff.1 hb).1
  exact ⟨(h.fm.blk g hlt hn).trans hb, h.free hlt hn⟩
set_option maxHeartbeats 8000000 in
set_option maxRecDepth 20000 in
theorem ln_star {s : T} {a : Rex.E} (h1 : LNP s a) : LNP (.mk 6 Cls.empty [s]) (.star a) := by
  intro base gp B v V p ru val w hP hx hB hR
  obtain ⟨b, o, cap, k0, c0, a0, n0, p0, rfl, hbB, r0, x0, x1, x2, x3, x4, x5⟩ := one_kid hx
  have hb0 := ((Below.refl w.heap.size w).alloc (Nat.le_refl _) (Obj.cells #[.int .i64 6, .int .u64 0, .int .u64 0, .int .u64 0, .int .u64 0, .slice (some ⟨b, o, none⟩) 1 cap] 44)).alloc (by simp) (Obj.cells #[.slice none 0 0, .slice none 0 0, .bool false] 137)
  have hg5 : ((w.alloc (Obj.cells #[.int .i64 6, .int .u64 0, .int .u64 0, .int .u64 0, .int .u64 0, .slice (some ⟨b, o, none⟩) 1 cap] 44)).alloc (Obj.cells #[.slice none 0 0, .slice none 0 0, .bool false] 137)).heap[w.heap.size]? = some (.cells #[.int .i64 6, .int .u64 0, .int .u64 0, .int .u64 0, .int .u64 0, .slice (some ⟨b, o, none⟩) 1 cap] 44) := (alloc_old _ _ (by simp)).trans (new_at _ _ rfl)
  have hg6 : ((w.alloc (Obj.cells #[.int .i64 6, .int .u64 0, .int .u64 0, .int .u64 0, .int .u64 0, .slice (some ⟨b, o, none⟩) 1 cap] 44)).alloc (Obj.cells #[.slice none 0 0, .slice none 0 0, .bool false] 137)).heap[w.heap.size + 1]? = some (.cells #[.slice none 0 0, .slice none 0 0, .bool false] 137) := new_at _ _ (by simp)
  have hsz0 : ((w.alloc (Obj.cells #[.int .i64 6, .int .u64 0, .int .u64 0, .int .u64 0, .int .u64 0, .slice (some ⟨b, o, none⟩) 1 cap] 44)).alloc (Obj.cells #[.slice none 0 0, .slice none 0 0, .bool false] 137)).heap.size = w.heap.size + 1 + 1 := by simp
  obtain ⟨w0, HW0⟩ : ∃ w0, Hid ((w.alloc (Obj.cells #[.int .i64 6, .int .u64 0, .int .u64 0, .int .u64 0, .int .u64 0, .slice (some ⟨b, o, none⟩) 1 cap] 44)).alloc (Obj.cells #[.slice none 0 0, .slice none 0 0, .bool false] 137) = w0) := ⟨_, (rfl : _ = _)⟩
  rw [HW0.out] at hb0 hg5 hg6 hsz0
  have HPW : Hid (Pm base gp v V p w) := hP
  have HST0 : Hid (St base gp v V p.follow.length w p v V w0) := (St.refl hP).next hb0
  have HG6 : Hid (w0.heap[w.heap.size + 1]? = some (.cells #[.slice none 0 0, .slice none 0 0, .bool false] 137) ∧ w0.heap.size = w.heap.size + 1 + 1 ∧ w0.heap[w.heap.size]? = some (.cells #[.int .i64 6, .int .u64 0, .int .u64 0, .int .u64 0, .int .u64 0, .slice (some ⟨b, o, none⟩) 1 cap] 44)) := ⟨hg6, hsz0, hg5⟩
  have HNG : Hid (¬ Own gp v V p.follow.length (w.heap.size + 1) ∧ ¬ Own gp v V p.follow.length w.heap.size) := ⟨fun ho => by have := hP.own_lt ho; omega, fun ho => by have := hP.own_lt ho; omega⟩
  have HRD : Hid (Pm.Rdy p (Rex.E.nodes _)) := hR
  have HBG : Hid (B ≤ gp ∧ b < B ∧ gp < w.heap.size) := ⟨hB, hbB, hP.box.lt⟩
  have HR1 : Hid (Pm.Rdy p a.nodes) := hR.less (by simp only [Rex.E.nodes]; omega)
  have hcall := h1 base gp B v V p ru (.agg #[.int .i64 k0, .int .u64 (c0.1.toNat : Int), .int .u64 (c0.2.1.toNat : Int), .int .u64 (c0.2.2.1.toNat : Int), .int .u64 (c0.2.2.2.toNat : Int), .slice a0 n0 p0]) w0 HST0.out.pm (r0.next (HST0.out.below hP hB)) hB HR1.out
  have hkb := HST0.out.below hP hB
  replace x0 := (hkb.cell (p := ⟨b, o, none⟩) hbB).trans x0
  replace x1 := (hkb.cell (p := ⟨b, o + 1, none⟩) hbB).trans x1
  replace x2 := (hkb.cell (p := ⟨b, o + 2, none⟩) hbB).trans x2
  replace x3 := (hkb.cell (p := ⟨b, o + 3, none⟩) hbB).trans x3
  replace x4 := (hkb.cell (p := ⟨b, o + 4, none⟩) hbB).trans x4
  replace x5 := (hkb.cell (p := ⟨b, o + 5, none⟩) hbB).trans x5
  rw [← HW0.out] at x0 x1 x2 x3 x4 x5
  have hgd := Pm.layX_good a ⟨p.cls, p.follow⟩ hR.ok
  have hfn := Pm.layX_fine a ⟨p.cls, p.follow⟩ hR.ok hR.fine (by have := HR1.out.room; simp only; omega)
  obtain ⟨e1, HE1⟩ : ∃ e1, Hid ((Pm.layX a ⟨p.cls, p.follow⟩).1 = e1) := ⟨_, (rfl : _ = _)⟩
  obtain ⟨s1, HS1⟩ : ∃ s1, Hid ((Pm.layX a ⟨p.cls, p.follow⟩).2 = s1) := ⟨_, (rfl : _ = _)⟩
  have HX : Hid ((Pm.layX (.star a) ⟨p.cls, p.follow⟩).1 = ⟨e1.first, e1.last, true⟩ ∧ Pm.pos p (Pm.layX (.star a) ⟨p.cls, p.follow⟩).2 ru = ⟨(Pm.pos p s1 ru).cls, (Pm.pos p s1 ru).rules, (Pm.pos p s1 ru).first, Pm.link e1.first e1.last (Pm.pos p s1 ru).follow, (Pm.pos p s1 ru).last, (Pm.pos p s1 ru).empty⟩) := by
    rw [← HE1.out, ← HS1.out]; exact ⟨rfl, rfl⟩
  rw [HE1.out, HS1.out] at hcall hgd
  rw [HS1.out] at hfn
  rw [HX.out.1, HX.out.2]
  have HGD : Hid (Pm.Gx a.nodes ⟨p.cls, p.follow⟩ e1 s1 ∧ Pm.Fine 3000 s1.fol) := ⟨hgd, hfn⟩
  obtain ⟨P1, HP1⟩ : ∃ P1, Hid (Pm.pos p s1 ru = P1) := ⟨_, (rfl : _ = _)⟩
  have HPF : Hid (P1.follow = s1.fol) := by show _ = _; rw [← HP1.out]; rfl
  rw [HP1.out] at hcall
  rw [HP1.out]
  clear hP hR hx hb0 hg5 hg6 hsz0 hkb hgd hfn HX HE1 HS1 HP1 r0
  simp only
  go_enter Try.func74, Try.ntmps74
  go_wp2_with fail
  rw [HW0.out]
  clear x0 x1 x2 x3 x4 x5
  refine hcall.mono ?_
  rintro _ w1 ⟨v1, V1, fo, fn, fc, lo, ln, lc, rfl, hno⟩
  obtain ⟨em, HEM⟩ : ∃ em, Hid (e1.empty = em) := ⟨_, (rfl : e1.empty = e1.empty)⟩
  rw [HEM.out]
  have hb1 := below_alloc1 w1 (Obj.cells #[.slice fo fn fc, .slice lo ln lc, .bool em] 137)
  have hbx := new_at w1 (Obj.cells #[.slice fo fn fc, .slice lo ln lc, .bool em] 137) rfl
  obtain ⟨w2, HW2⟩ : ∃ w2, Hid (w1.alloc (Obj.cells #[.slice fo fn fc, .slice lo ln lc, .bool em] 137) = w2) := ⟨_, (rfl : _ = _)⟩
  rw [HW2.out] at hb1 hbx
  have hk6 := box_kept hno.st HG6.out.1 HNG.out.1
  have hst2 := hno.st.next hb1
  have hf2 := hno.f.next hb1
  have hl2 := hno.l.next hb1
  have HNX : Hid (¬ Own gp v1 V1 P1.follow.length w1.heap.size) := fun ho => by have := hno.st.pm.own_lt ho; omega
  have HK6 : Hid (w2.heap[w.heap.size + 1]? = some (.cells #[.slice none 0 0, .slice none 0 0, .bool false] 137) ∧ ¬ Own gp v1 V1 P1.follow.length (w.heap.size + 1)) := ⟨(hb1.block _ ((Array.getElem?_eq_some_iff.1 hk6.1).1)).trans hk6.1, hk6.2⟩
  have HLK : Hid (Calls Try.prog 84 #[(.pointer (some ⟨gp, 0, none⟩)), .slice lo ln lc, .slice fo fn fc] w2 fun e w' => e = .returned (.tuple #[]) ∧ ∃ V', St base gp v1 V1 P1.follow.length w2 (⟨P1.cls, P1.rules, P1.first, Pm.link e1.first e1.last P1.follow, P1.last, P1.empty⟩ : P) v1 V' w') := by
    have g := HGD.out.1
    have go := g.ok; unfold Pm.Ok at go
    have g3 := g.few; have g4 := HR1.out.room
    simp only at g3
    refine link_st hst2.pm hl2 hf2 (fun x hx => ?_) (g.first.fine (by omega)) (by rw [HPF.out]; exact HGD.out.2) (by rw [HPF.out]; omega) (by have := g.ll; omega) (by have := g.fl; omega)
    have := g.last x hx
    rw [HPF.out, go]
    omega
  have HSF : Hid (St base gp v V p.follow.length w P1 v1 V1 w2 ∧ Rk gp v1 V1 P1.follow.length w.heap.size (.slice fo fn fc) e1.first w2 ∧ Rk gp v1 V1 P1.follow.length w.heap.size (.slice lo ln lc) e1.last w2) := ⟨HST0.out.trans hst2, hf2.less (by have := HG6.out.2.1; omega), hl2.less (by have := HG6.out.2.1; omega)⟩
  have HSB : Hid (w.heap.size + 1 + 1 ≤ w1.heap.size) := by have := hno.st.fm.size; rw [HG6.out.2.1] at this; exact this
  have HBF : Hid ((∀ q, (Value.slice fo fn fc).ownBlock = some q → w.heap.size + 1 + 1 ≤ q) ∧ ∀ q, (Value.slice lo ln lc).ownBlock = some q → w.heap.size + 1 + 1 ≤ q) := ⟨fun q hq => by have := (hno.f.b q hq).1; rw [HG6.out.2.1] at this; exact this, fun q hq => by have := (hno.l.b q hq).1; rw [HG6.out.2.1] at this; exact this⟩
  have HBX : Hid (w2.heap[w1.heap.size]? = some (.cells #[.slice fo fn fc, .slice lo ln lc, .bool em] 137)) := hbx
  obtain ⟨y0, y1, y2, -⟩ := cells3 hbx
  clear hno hb1 hbx hk6 hst2 hf2 hl2 hcall HEM
  rw [← HW2.out] at y0 y1 y2
  go_wp2_with fail
  rw [HW2.out]
  clear y0 y1 y2 HW2
  refine HLK.out.mono ?_
  rintro _ w3 ⟨rfl, V3, hst3⟩
  have hx3 := box_kept hst3 HBX.out HNX.out
  have h63 := box_kept hst3 HK6.out.1 HK6.out.2
  obtain ⟨y0, y1, y2, -⟩ := cells3 hx3.1
  obtain ⟨z0, z1, z2, zf⟩ := cells3 h63.1
  have HFIN : Hid (NO base gp v V p.follow.length w (⟨P1.cls, P1.rules, P1.first, Pm.link e1.first e1.last P1.follow, P1.last, P1.empty⟩ : P) v1 V3 (.slice fo fn fc) (.slice lo ln lc) e1.first e1.last (((w3.setCell ⟨w.heap.size + 1, 0, none⟩ (.slice fo fn fc)).setCell ⟨w.heap.size + 1, 1, none⟩ (.slice lo ln lc)).setCell ⟨w.heap.size + 1, 2, none⟩ (.bool true))) :=
    no_fin (HSF.out.1.trans hst3) (HSF.out.2.1.step hst3) (HSF.out.2.2.step hst3) h63.2 (by omega) (fun e => by have := HBF.out.1 _ e; omega) (fun e => by have := HBF.out.2 _ e; omega) _ _ _
  have H63 : Hid (w3.heap[w.heap.size + 1]? = some (.cells #[.slice none 0 0, .slice none 0 0, .bool false] 137)) := h63.1
  clear hst3 hx3 h63
  go_wp2_with fail
  refine bodyPost_ret (v := .agg #[.slice fo fn fc, .slice lo ln lc, .bool true]) (results_cell_row results47 _ _ (w.heap.size + 1) 137 #[.slice fo fn fc, .slice lo ln lc, .bool true] (0, 0) _ rfl (three H63.out _ _ _) Try.underlying137 rfl (by kernel_rfl)) rfl ⟨v1, V3, _, _, _, _, _, _, rfl, HFIN.out⟩
end Go.Proofs.Ytlmlkpdppkgenaa
