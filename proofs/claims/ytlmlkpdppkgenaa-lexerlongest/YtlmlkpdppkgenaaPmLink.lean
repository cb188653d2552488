/-
  The contract of places.link.
-/
import Derived.Test.YtlmlkpdppkgenaaPmPlace
import Derived.Test.YtlmlkpdppkgenaaPmSort
import Derived.Test.YtlmlkpdppkgenaaPmInner
namespace Go.Proofs.Ytlmlkpdppkgenaa
open Go.RowKit
open Cls Po

theorem frozen_as {w w' : World} {g : Nat} (h : w'.heap[g]? = w.heap[g]?) (i : Nat) : w'.frozen? ⟨g, i, none⟩ = w.frozen? ⟨g, i, none⟩ := by simp [World.frozen?, h]
theorem grownBy_drew {w w' : World} {o : Option Nat} (h : w.grownBy w' o) : w.grownBy w'.drew o := ⟨h.os, h.tape, h.output, h.size, h.block⟩
theorem link_snoc (to : List Int) (x : Int) : ∀ (l : List Int) (f : List (List Int)), Pm.link to (l ++ [x]) f = (Pm.link to l f).set x.toNat (Pm.norm ((Pm.link to l f).getD x.toNat [] ++ to))
  | [], _ => rfl
  | p :: l, f => by rw [List.cons_append, Pm.link, Pm.link, link_snoc to x l]
/-- Numbers are put behind a row of one's own. -/
theorem append_ints {base : Nat} {v vt : Value} {zs to : List Int} {w : World} (h : w.ownsRow base 3 1 v zs.length (zs.map (Value.int .i64))) (ht : Ints w vt to) (hs : zs.length + to.length ≤ 1000000) (hb : base ≤ w.heap.size) :
    ∃ o n c w', (Builtin.append_ #[23, 23] 23 #[v, vt]).run Try.prog w = .ok (.slice o n c) w' ∧ w'.ownsRow base 3 1 (.slice o n c) (zs ++ to).length ((zs ++ to).map (Value.int .i64)) ∧ w.grownBy w' v.ownBlock ∧ ∀ q, (Value.slice o n c).ownBlock = some q → v.ownBlock = some q ∨ w.heap.size ≤ q := by
  obtain ⟨i3, a1, a2, a3, a4⟩ := info_parts iinfo3
  obtain ⟨ao, ct, rfl, -, hc⟩ := ht
  cases ao with
  | none =>
    have h0 : to = [] := by
      rcases hc with hc | ⟨b, o, he, -⟩
      · exact hc
      · cases he
    subst h0
    have hr : (Builtin.append_ #[23, 23] 23 #[v, .slice none 0 ct]).run Try.prog w = .ok v w := by
      rcases h.2 with ⟨rfl, h1⟩ | ⟨g, cap, cur, rfl, _, _, hnc, _⟩
      · simp [Builtin.append_, run_underlying Try.underlying23, sizeOf, typeInfo, a1, Builtin.lenOf, Builtin.firstCells]
      · simp [Builtin.append_, run_underlying Try.underlying23, sizeOf, typeInfo, a1, Builtin.lenOf, Builtin.firstCells, hnc, storeCells]
    rcases h.2 with ⟨hv, h1⟩ | ⟨g, cap, cur, hv, _⟩
    · subst hv
      exact ⟨none, 0, 0, w, hr, by simpa using h, grownBy_same _ _, fun q hq => Or.inl hq⟩
    · subst hv
      exact ⟨_, _, _, w, hr, by simpa using h, grownBy_same _ _, fun q hq => Or.inl hq⟩
  | some a =>
    have hcl : ∀ j u, (to.map (Value.int .i64))[j]? = some u → w.cell? (a.add j) = some u := fun j u hj => by
      rcases hc with hc | ⟨b, o, he, hl, hcc⟩
      · subst hc; simp at hj
      · cases he
        simp only [List.getElem?_map, Option.map_eq_some_iff] at hj
        obtain ⟨x, hx, rfl⟩ := hj
        obtain ⟨hj2, rfl⟩ := List.getElem?_eq_some_iff.1 hx
        rw [Addr.add_lit]
        exact hcc j hj2
    obtain ⟨v', w', hr, h2, h3, -, h5⟩ := run_append_own_at (P := Try.prog) w base 23 23 3 i3 _ 1 8 Try.underlying23 a1 a2 a3 a4 rfl (by omega) v zs.length (zs.map (Value.int .i64)) h a to.length ct (to.map (Value.int .i64)) (by simp) hcl (by intro u hu; simp at hu; obtain ⟨x, -, rfl⟩ := hu; rfl) (by unfold maxLen; omega) (by omega) hb
    have hf : ∃ o n c, v' = .slice o n c := by
      rcases h2.2 with ⟨hv, -⟩ | ⟨g, cap, cur, hv, -⟩
      · exact ⟨_, _, _, hv⟩
      · exact ⟨_, _, _, hv⟩
    obtain ⟨o, n, c, rfl⟩ := hf
    refine ⟨o, n, c, w', hr, by rw [List.length_append, List.map_append]; exact h2, h3, fun q hq => ?_⟩
    rcases h5 with h5 | h5
    · exact Or.inl (by rw [← h5]; exact hq)
    · rw [hq] at h5; cases h5; exact Or.inr (Nat.le_refl _)
theorem Ints.keep {w w' : World} {v : Value} {l : List Int} (h : Ints w v l) (hs : w.heap.size ≤ w'.heap.size) (hb : ∀ q, q < w.heap.size → v.ownBlock = some q → w'.heap[q]? = w.heap[q]?) : Ints w' v l := by
  obtain ⟨ao, cap, rfl, hm, h | ⟨b, o, rfl, h2, h3⟩⟩ := h
  · exact ⟨ao, cap, rfl, hm, Or.inl h⟩
  · exact ⟨_, cap, rfl, hm, Or.inr ⟨b, o, rfl, Nat.lt_of_lt_of_le h2 hs, fun i hi => (cell_as (hb b h2 rfl) (o + i)).trans (h3 i hi)⟩⟩
structure RL5 (w0 : World) (base gp g cap ii : Nat) (v V : Nat → Value) (p : P) (o8 : Option Addr) (n8 c8 : Nat) (ls : List Int) (o9 : Option Addr) (n9 : Nat) (c9 : Nat) (d : Nat → Bool) (x26 x27 x28 x29 x30 x31 x32 x33 : Value) (W : World) : Prop where
  f0 : d 0 = true → x26 = (.pointer (some ⟨gp, 0, none⟩))
  f1 : d 1 = true → x27 = (.pointer (some ⟨gp, 0, none⟩))
  f2 : d 2 = true → x28 = (.pointer (some ⟨gp, 3, none⟩))
  f3 : d 3 = true → x29 = (.slice (some ⟨g, 0, none⟩) p.follow.length cap)
  f4 : d 4 = true → x30 = (.int .i64 (ii : Int))
  f5 : d 5 = true → x31 = (.slice o8 n8 c8)
  f6 : d 6 = true → x32 = (.slice o9 n9 c9)
  f7 : d 7 = true → x33 = (.pointer (some ⟨g, ii, none⟩))
  f8 : d 8 = true → True
  o7_3 : d 7 = true → d 3 = true
  o8_3 : d 8 = true → d 3 = true
  o8_6 : d 8 = true → d 6 = true
  ca : d 6 = false → W.ownsRow base 3 1 (.slice o8 n8 c8) ls.length (ls.map (Value.int .i64))
  gr : d 8 = false → w0.grownBy W (V ii).ownBlock
  cb : d 6 = true → d 8 = false → W.ownsRow base 3 1 (.slice o9 n9 c9) (Go.Lib.compact ls).length ((Go.Lib.compact ls).map (Value.int .i64)) ∧ ∀ q, (Value.slice o9 n9 c9).ownBlock = some q → (V ii).ownBlock = some q ∨ w0.heap.size ≤ q
  fin : d 8 = true → Pm base gp v (upd V ii (.slice o9 n9 c9)) (⟨p.cls, p.rules, p.first, p.follow.set ii (Go.Lib.compact ls), p.last, p.empty⟩ : P) W ∧ Fm (Own gp v V p.follow.length) w0 W ∧ ∀ q, Own gp v (upd V ii (.slice o9 n9 c9)) (p.follow.set ii (Go.Lib.compact ls)).length q → Own gp v V p.follow.length q ∨ w0.heap.size ≤ q

set_option maxHeartbeats 8000000 in
set_option maxRecDepth 20000 in
theorem link_any (base gp : Nat) (v V0 : Nat → Value) (p0 : P) (fr to : List Int) (vf vt : Value) (w : World) (h : Pm base gp v V0 p0 w) (hf : Ints w vf fr) (ht : Ints w vt to)
    (hfo : ∀ q, vf.ownBlock = some q → ¬ Own gp v V0 p0.follow.length q) (hto : ∀ q, vt.ownBlock = some q → ¬ Own gp v V0 p0.follow.length q) (hfn : ∀ x ∈ fr, 0 ≤ x ∧ x < (p0.follow.length : Int))
    (hsz : to.length ≤ 100000) (hll : ∀ k i, ((Pm.link to (fr.take k) p0.follow).getD i []).length ≤ 100000) (hfl : p0.follow.length ≤ 100000) (hfrl : fr.length ≤ 100000) :
    Calls Try.prog 84 #[(.pointer (some ⟨gp, 0, none⟩)), vf, vt] w fun e w' => e = .returned (.tuple #[]) ∧ ∃ V, Pm base gp v V ⟨p0.cls, p0.rules, p0.first, Pm.link to fr p0.follow, p0.last, p0.empty⟩ w' ∧ Fm (Own gp v V0 p0.follow.length) w w' ∧ ∀ q, Own gp v V p0.follow.length q → Own gp v V0 p0.follow.length q ∨ w.heap.size ≤ q := by
  have HFR : Hid (Ints w vf fr ∧ (∀ q, vf.ownBlock = some q → ¬ Own gp v V0 p0.follow.length q) ∧ ∀ x ∈ fr, 0 ≤ x ∧ x < (p0.follow.length : Int)) := ⟨hf, hfo, hfn⟩
  have HTO : Hid (Ints w vt to ∧ ∀ q, vt.ownBlock = some q → ¬ Own gp v V0 p0.follow.length q) := ⟨ht, hto⟩
  have HSZ : Hid (to.length ≤ 100000 ∧ (∀ k i, ((Pm.link to (fr.take k) p0.follow).getD i []).length ≤ 100000) ∧ p0.follow.length ≤ 100000) := ⟨hsz, hll, hfl⟩
  have HST : Hid (∃ V, Pm base gp v V (⟨p0.cls, p0.rules, p0.first, Pm.link to (fr.take 0) p0.follow, p0.last, p0.empty⟩ : P) w ∧ Fm (Own gp v V0 p0.follow.length) w w ∧ ∀ q, Own gp v V p0.follow.length q → Own gp v V0 p0.follow.length q ∨ w.heap.size ≤ q) := ⟨V0, h, Fm.refl _ _, fun q hq => Or.inl hq⟩
  obtain ⟨aof, cpf, rfl, -, -⟩ := hf
  obtain ⟨aot, cpt, rfl, -, -⟩ := ht
  clear h hfo hto hfn hsz hll hfl
  go_enter Try.func84, Try.ntmps84
  go_wp2_with fail
  go_loopw [11] (fun z wr => ∃ k : Nat, k ≤ fr.length ∧ z = .int .i64 (k : Int) ∧ Hid (∃ V, Pm base gp v V (⟨p0.cls, p0.rules, p0.first, Pm.link to (fr.take k) p0.follow, p0.last, p0.empty⟩ : P) wr ∧ Fm (Own gp v V0 p0.follow.length) w wr ∧ ∀ q, Own gp v V p0.follow.length q → Own gp v V0 p0.follow.length q ∨ w.heap.size ≤ q)) (fun z _ => fr.length - (intOf z).toNat)
  case atStart => exact ⟨0, by omega, rfl, HST⟩
  case round =>
    clear HST
    obtain ⟨k, hk, rfl, HR⟩ := hrel
    by_cases hlt : k < fr.length
    · obtain ⟨V, hpm, hfw, how⟩ := HR.out
      clear HR
      obtain ⟨b, o, rfl, hbl, hbc⟩ : ∃ b o, aof = some ⟨b, o, none⟩ ∧ b < w.heap.size ∧ ∀ i (hi : i < fr.length), w.cell? ⟨b, o + i, none⟩ = some (.int .i64 fr[i]) := by
        obtain ⟨ao, cap, he, -, hc | ⟨b, o, he2, h2, h3⟩⟩ := HFR.out.1
        · rw [hc] at hlt; simp at hlt
        · cases he; exact ⟨b, o, he2, h2, h3⟩
      obtain ⟨ii, hii⟩ : ∃ ii : Nat, fr[k] = (ii : Int) := ⟨fr[k].toNat, by have := (HFR.out.2.2 fr[k] (List.getElem_mem hlt)).1; omega⟩
      have hil : ii < p0.follow.length := by have := (HFR.out.2.2 fr[k] (List.getElem_mem hlt)).2; omega
      have yb : wr.cell? ⟨b, o + k, none⟩ = some (.int .i64 (ii : Int)) := by
        rw [cell_as (hfw.blk b hbl (HFR.out.2.1 b rfl)) (o + k), hbc k hlt, hii]
      obtain ⟨p, HP⟩ : ∃ q, Hid (q = (⟨p0.cls, p0.rules, p0.first, Pm.link to (fr.take k) p0.follow, p0.last, p0.empty⟩ : P)) := ⟨_, (rfl : _ = _)⟩
      have HOW : Hid (∀ q, Own gp v V p0.follow.length q → Own gp v V0 p0.follow.length q ∨ w.heap.size ≤ q) := how
      have HFW : Hid (Fm (Own gp v V0 p0.follow.length) w wr) := hfw
      have hpl : p.follow.length = p0.follow.length := by rw [HP.out]; exact Pm.link_length _ _ _
      rw [← HP.out] at hpm
      have HLK : Hid ((⟨p0.cls, p0.rules, p0.first, Pm.link to (fr.take (k + 1)) p0.follow, p0.last, p0.empty⟩ : P) = (⟨p0.cls, p0.rules, p0.first, (Pm.link to (fr.take k) p0.follow).set ii (Go.Lib.compact (srt ((Pm.link to (fr.take k) p0.follow).getD ii [] ++ to))), p0.last, p0.empty⟩ : P)) := by
        show _ = _
        rw [show fr.take (k + 1) = fr.take k ++ [fr[k]] by rw [List.take_add_one, List.getElem?_eq_getElem hlt]; rfl, link_snoc, hii]; rfl
      have HII : Hid (ii < p.follow.length) := by rw [hpl]; exact hil
      obtain ⟨g, cap, hv3, -, -, hc3, hz3⟩ := hpm.lists HII.out
      have HV3 : Hid (v 3 = (.slice (some ⟨g, 0, none⟩) p.follow.length cap)) := hv3
      have HL : Hid (wr.cell? ⟨g, ii, none⟩ = some (V ii) ∧ wr.frozen? ⟨g, ii, none⟩ = false) := ⟨hc3, hz3⟩
      have y3 : wr.cell? ⟨gp, 3, none⟩ = some (.slice (some ⟨g, 0, none⟩) p.follow.length cap) := by rw [← hv3]; exact hpm.box.cell (i := 3) (by omega)
      have HBX : Hid (gp < wr.heap.size ∧ some gp ≠ (V ii).ownBlock ∧ wr.cell? ⟨gp, 3, none⟩ = some (.slice (some ⟨g, 0, none⟩) p.follow.length cap)) := ⟨hpm.box.lt, fun e => by have := ((hpm.inn ii HII.out).lt gp e.symm).1; have := hpm.lt; omega, y3⟩
      have htk : Ints wr (.slice aot to.length cpt) to := HTO.out.1.keep hfw.size (fun q hq he => hfw.blk q hq (HTO.out.2 q he))
      have hgd : p.follow.getD ii [] = (Pm.link to (fr.take k) p0.follow).getD ii [] := by rw [HP.out]
      obtain ⟨o8, n8, c8, w8, hrun, how8, hgw8, hq8⟩ := append_ints (hpm.inn ii HII.out) htk (by have := HSZ.out.1; have := HSZ.out.2.1 k ii; rw [← hgd] at this; omega) hpm.sz
      have HRUN : Hid ((Builtin.append_ #[23, 23] 23 #[V ii, .slice aot to.length cpt]).run Try.prog wr = .ok (.slice o8 n8 c8) w8) := hrun
      have HLS0 : Hid ((p.follow.getD ii [] ++ to).length < 4611686018427387904) := by show _ < _; rw [List.length_append]; have := HSZ.out.1; have := HSZ.out.2.1 k ii; rw [← hgd] at this; omega
      have HSR : Hid (Calls Try.prog 89 #[(.slice o8 n8 c8)] w8 fun e w' => e = .returned (.tuple #[]) ∧ w'.ownsRow base 3 1 (.slice o8 n8 c8) (srt (p.follow.getD ii [] ++ to)).length ((srt (p.follow.getD ii [] ++ to)).map (Value.int .i64)) ∧ w8.grownBy w' (Value.slice o8 n8 c8).ownBlock) := sort_own w8 how8 HLS0.out
      have HG8 : Hid (wr.grownBy w8 (V ii).ownBlock) := hgw8
      have HQ : Hid (∀ q, (Value.slice o8 n8 c8).ownBlock = some q → (V ii).ownBlock = some q ∨ wr.heap.size ≤ q) := hq8
      have HPM : Hid (Pm base gp v V p wr) := hpm
      have HPL : Hid (p.follow.length = p0.follow.length) := hpl
      have hk0 : (0 : Int) ≤ (k : Int) := by omega
      have hk1 : (k : Int) < (fr.length : Int) := by omega
      have hi0 : (0 : Int) ≤ (ii : Int) := by omega
      have hi1 : (ii : Int) < (p.follow.length : Int) := by have := HII.out; omega
      clear hpm hfw how hbc hii hil hv3 hz3 htk hrun how8 hgw8 hq8 hpl hbl
      rw [hgd] at HLS0 HSR
      obtain ⟨ls, HE⟩ : ∃ q, Hid (srt ((Pm.link to (fr.take k) p0.follow).getD ii [] ++ to) = q) := ⟨_, (rfl : _ = _)⟩
      have HLS : Hid (ls.length < 4611686018427387904) := by show _ < _; rw [← HE.out, srt_length]; exact HLS0.out
      rw [HE.out] at HSR HLK
      clear HE hgd HLS0
      go_upto_region 5 with (first | refine wpList_append_run rfl _ _ 23 rfl _ _ rfl rfl HRUN.out ?_ | (go_at_call 89; refine HSR.out.mono ?_; rintro _ w5 ⟨rfl, h5⟩))
      have HS8 : Hid (w5.ownsRow base 3 1 (.slice o8 n8 c8) ls.length (ls.map (Value.int .i64)) ∧ True ∧ wr.grownBy w5 (V ii).ownBlock) := ⟨h5.1, trivial, grownBy_trans HG8.out h5.2 HQ.out⟩
      clear h5 HSR HRUN HG8 hc3 y3 yb
      obtain ⟨w0, HW0⟩ : ∃ q, Hid (wr = q) := ⟨_, (rfl : _ = _)⟩
      rw [HW0.out] at HS8 HQ HPM HBX HL HFW
      clear HW0
      refine wp_region_free mixed (fun a0 d a W => ∃ (o9 : Option Addr) (n9 : Nat) (c9 : Nat) (x26 x27 x28 x29 x30 x31 x32 x33 : Value), a = ((((((((a0.put (some 26) x26).put (some 27) x27).put (some 28) x28).put (some 29) x29).put (some 30) x30).put (some 31) x31).put (some 32) x32).put (some 33) x33) ∧ Hid (RL5 w0 base gp g cap ii v V p o8 n8 c8 ls o9 n9 c9 d x26 x27 x28 x29 x30 x31 x32 x33 W)) (by kernel_rfl) ⟨none, 0, 0, u26, u27, u28, u29, u30, u31, u32, u33, by simp only [Act.put, List.setIfInBounds_toArray, List.set_cons_zero, List.set_cons_succ], ?_⟩ ?_ ?_
      · exact ⟨fun h => no_way h, fun h => no_way h, fun h => no_way h, fun h => no_way h, fun h => no_way h, fun h => no_way h, fun h => no_way h, fun h => no_way h, fun _ => trivial, fun h => no_way h, fun h => no_way h, fun h => no_way h, fun _ => own_keep HS8.out.1 (fun _ _ => rfl), fun _ => grownBy_drew HS8.out.2.2, fun h => no_way h, fun h => no_way h⟩
      · simp only [StepAll, and_true]
        refine ⟨?_, ?_, ?_, ?_, ?_, ?_, ?_, ?_, ?_⟩
        · intro d a W hI hd hdep
          obtain ⟨o9, n9, c9, x26, x27, x28, x29, x30, x31, x32, x33, rfl, hF⟩ := hI
          clear hdep hd
          intro K hK
          simp only [Act.put, List.setIfInBounds_toArray, List.set_cons_zero, List.set_cons_succ]
          go_simp
          refine hK.out _ _ ⟨o9, n9, c9, (.pointer (some ⟨gp, 0, none⟩)), x27, x28, x29, x30, x31, x32, x33, by simp only [Act.put, List.setIfInBounds_toArray, List.set_cons_zero, List.set_cons_succ], ?_⟩
          exact ⟨fun _ => rfl, fun h => hF.out.f1 (by simpa using h), fun h => hF.out.f2 (by simpa using h), fun h => hF.out.f3 (by simpa using h), fun h => hF.out.f4 (by simpa using h), fun h => hF.out.f5 (by simpa using h), fun h => hF.out.f6 (by simpa using h), fun h => hF.out.f7 (by simpa using h), fun h => hF.out.f8 (by simpa using h), fun h => by have := hF.out.o7_3 (by simpa using h); simpa using this, fun h => by have := hF.out.o8_3 (by simpa using h); simpa using this, fun h => by have := hF.out.o8_6 (by simpa using h); simpa using this, fun h => hF.out.ca (by simpa using h), fun h => hF.out.gr (by simpa using h), fun h h2 => hF.out.cb (by simpa using h) (by simpa using h2), fun h => hF.out.fin (by simpa using h)⟩
        · intro d a W hI hd hdep
          obtain ⟨o9, n9, c9, x26, x27, x28, x29, x30, x31, x32, x33, rfl, hF⟩ := hI
          have hd0 : d 0 = true := dep_of hdep 0 (by kernel_rfl)
          obtain rfl := hF.out.f0 hd0
          clear hdep hd hd0
          intro K hK
          simp only [Act.put, List.setIfInBounds_toArray, List.set_cons_zero, List.set_cons_succ]
          go_simp
          refine hK.out _ _ ⟨o9, n9, c9, (.pointer (some ⟨gp, 0, none⟩)), (.pointer (some ⟨gp, 0, none⟩)), x28, x29, x30, x31, x32, x33, by simp only [Act.put, List.setIfInBounds_toArray, List.set_cons_zero, List.set_cons_succ], ?_⟩
          exact ⟨fun h => hF.out.f0 (by simpa using h), fun _ => rfl, fun h => hF.out.f2 (by simpa using h), fun h => hF.out.f3 (by simpa using h), fun h => hF.out.f4 (by simpa using h), fun h => hF.out.f5 (by simpa using h), fun h => hF.out.f6 (by simpa using h), fun h => hF.out.f7 (by simpa using h), fun h => hF.out.f8 (by simpa using h), fun h => by have := hF.out.o7_3 (by simpa using h); simpa using this, fun h => by have := hF.out.o8_3 (by simpa using h); simpa using this, fun h => by have := hF.out.o8_6 (by simpa using h); simpa using this, fun h => hF.out.ca (by simpa using h), fun h => hF.out.gr (by simpa using h), fun h h2 => hF.out.cb (by simpa using h) (by simpa using h2), fun h => hF.out.fin (by simpa using h)⟩
        · intro d a W hI hd hdep
          obtain ⟨o9, n9, c9, x26, x27, x28, x29, x30, x31, x32, x33, rfl, hF⟩ := hI
          have hd1 : d 1 = true := dep_of hdep 1 (by kernel_rfl)
          obtain rfl := hF.out.f1 hd1
          clear hdep hd hd1
          intro K hK
          simp only [Act.put, List.setIfInBounds_toArray, List.set_cons_zero, List.set_cons_succ]
          go_simp
          refine hK.out _ _ ⟨o9, n9, c9, x26, (.pointer (some ⟨gp, 0, none⟩)), (.pointer (some ⟨gp, 3, none⟩)), x29, x30, x31, x32, x33, by simp only [Act.put, List.setIfInBounds_toArray, List.set_cons_zero, List.set_cons_succ], ?_⟩
          exact ⟨fun h => hF.out.f0 (by simpa using h), fun h => hF.out.f1 (by simpa using h), fun _ => rfl, fun h => hF.out.f3 (by simpa using h), fun h => hF.out.f4 (by simpa using h), fun h => hF.out.f5 (by simpa using h), fun h => hF.out.f6 (by simpa using h), fun h => hF.out.f7 (by simpa using h), fun h => hF.out.f8 (by simpa using h), fun h => by have := hF.out.o7_3 (by simpa using h); simpa using this, fun h => by have := hF.out.o8_3 (by simpa using h); simpa using this, fun h => by have := hF.out.o8_6 (by simpa using h); simpa using this, fun h => hF.out.ca (by simpa using h), fun h => hF.out.gr (by simpa using h), fun h h2 => hF.out.cb (by simpa using h) (by simpa using h2), fun h => hF.out.fin (by simpa using h)⟩
        · intro d a W hI hd hdep
          obtain ⟨o9, n9, c9, x26, x27, x28, x29, x30, x31, x32, x33, rfl, hF⟩ := hI
          have hd2 : d 2 = true := dep_of hdep 2 (by kernel_rfl)
          obtain rfl := hF.out.f2 hd2
          have HN8 : Hid (d 8 = false) := no_later hF.out.o8_3 hd
          have ya := (cell_as ((hF.out.gr HN8.out).block gp HBX.out.1 HBX.out.2.1) 3).trans HBX.out.2.2
          clear hdep hd hd2
          intro K hK
          simp only [Act.put, List.setIfInBounds_toArray, List.set_cons_zero, List.set_cons_succ]
          go_simp
          refine hK.out _ _ ⟨o9, n9, c9, x26, x27, (.pointer (some ⟨gp, 3, none⟩)), (.slice (some ⟨g, 0, none⟩) p.follow.length cap), x30, x31, x32, x33, by simp only [Act.put, List.setIfInBounds_toArray, List.set_cons_zero, List.set_cons_succ], ?_⟩
          exact ⟨fun h => hF.out.f0 (by simpa using h), fun h => hF.out.f1 (by simpa using h), fun h => hF.out.f2 (by simpa using h), fun _ => rfl, fun h => hF.out.f4 (by simpa using h), fun h => hF.out.f5 (by simpa using h), fun h => hF.out.f6 (by simpa using h), fun h => hF.out.f7 (by simpa using h), fun h => hF.out.f8 (by simpa using h), fun _ => by simp, fun _ => by simp, fun h => by have := hF.out.o8_6 (by simpa using h); simpa using this, fun h => hF.out.ca (by simpa using h), fun h => hF.out.gr (by simpa using h), fun h h2 => hF.out.cb (by simpa using h) (by simpa using h2), fun h => hF.out.fin (by simpa using h)⟩
        · intro d a W hI hd hdep
          obtain ⟨o9, n9, c9, x26, x27, x28, x29, x30, x31, x32, x33, rfl, hF⟩ := hI
          clear hdep hd
          intro K hK
          simp only [Act.put, List.setIfInBounds_toArray, List.set_cons_zero, List.set_cons_succ]
          go_simp
          refine hK.out _ _ ⟨o9, n9, c9, x26, x27, x28, x29, (.int .i64 (ii : Int)), x31, x32, x33, by simp only [Act.put, List.setIfInBounds_toArray, List.set_cons_zero, List.set_cons_succ], ?_⟩
          exact ⟨fun h => hF.out.f0 (by simpa using h), fun h => hF.out.f1 (by simpa using h), fun h => hF.out.f2 (by simpa using h), fun h => hF.out.f3 (by simpa using h), fun _ => rfl, fun h => hF.out.f5 (by simpa using h), fun h => hF.out.f6 (by simpa using h), fun h => hF.out.f7 (by simpa using h), fun h => hF.out.f8 (by simpa using h), fun h => by have := hF.out.o7_3 (by simpa using h); simpa using this, fun h => by have := hF.out.o8_3 (by simpa using h); simpa using this, fun h => by have := hF.out.o8_6 (by simpa using h); simpa using this, fun h => hF.out.ca (by simpa using h), fun h => hF.out.gr (by simpa using h), fun h h2 => hF.out.cb (by simpa using h) (by simpa using h2), fun h => hF.out.fin (by simpa using h)⟩
        · intro d a W hI hd hdep
          obtain ⟨o9, n9, c9, x26, x27, x28, x29, x30, x31, x32, x33, rfl, hF⟩ := hI
          clear hdep hd
          intro K hK
          simp only [Act.put, List.setIfInBounds_toArray, List.set_cons_zero, List.set_cons_succ]
          go_simp
          refine hK.out _ _ ⟨o9, n9, c9, x26, x27, x28, x29, x30, (.slice o8 n8 c8), x32, x33, by simp only [Act.put, List.setIfInBounds_toArray, List.set_cons_zero, List.set_cons_succ], ?_⟩
          exact ⟨fun h => hF.out.f0 (by simpa using h), fun h => hF.out.f1 (by simpa using h), fun h => hF.out.f2 (by simpa using h), fun h => hF.out.f3 (by simpa using h), fun h => hF.out.f4 (by simpa using h), fun _ => rfl, fun h => hF.out.f6 (by simpa using h), fun h => hF.out.f7 (by simpa using h), fun h => hF.out.f8 (by simpa using h), fun h => by have := hF.out.o7_3 (by simpa using h); simpa using this, fun h => by have := hF.out.o8_3 (by simpa using h); simpa using this, fun h => by have := hF.out.o8_6 (by simpa using h); simpa using this, fun h => hF.out.ca (by simpa using h), fun h => hF.out.gr (by simpa using h), fun h h2 => hF.out.cb (by simpa using h) (by simpa using h2), fun h => hF.out.fin (by simpa using h)⟩
        · intro d a W hI hd hdep
          obtain ⟨o9, n9, c9, x26, x27, x28, x29, x30, x31, x32, x33, rfl, hF⟩ := hI
          have hd5 : d 5 = true := dep_of hdep 5 (by kernel_rfl)
          obtain rfl := hF.out.f5 hd5
          have HN8 : Hid (d 8 = false) := no_later hF.out.o8_6 hd
          have hcl := compact_own W (hF.out.ca hd) HLS.out
          have hg0 := hF.out.gr HN8.out
          clear hdep hd hd5
          intro K hK
          simp only [Act.put, List.setIfInBounds_toArray, List.set_cons_zero, List.set_cons_succ]
          go_simp
          refine hcl.mono ?_
          rintro _ W1 ⟨o7, n7, c7, rfl, h1, h2, h3⟩
          clear hcl
          have HC : Hid (W1.ownsRow base 3 1 (.slice o7 n7 c7) (Go.Lib.compact ls).length ((Go.Lib.compact ls).map (Value.int .i64)) ∧ (∀ q, (Value.slice o7 n7 c7).ownBlock = some q → (V ii).ownBlock = some q ∨ w0.heap.size ≤ q) ∧ w0.grownBy W1 (V ii).ownBlock) := ⟨h1, fun q hq => HQ.out q (by rw [← h2]; exact hq), grownBy_trans hg0 h3 HQ.out⟩
          clear h1 h2 h3 hg0
          go_simp
          refine hK.out _ _ ⟨o7, n7, c7, x26, x27, x28, x29, x30, (.slice o8 n8 c8), (.slice o7 n7 c7), x33, by simp only [Act.put, List.setIfInBounds_toArray, List.set_cons_zero, List.set_cons_succ], ?_⟩
          exact ⟨fun h => hF.out.f0 (by simpa using h), fun h => hF.out.f1 (by simpa using h), fun h => hF.out.f2 (by simpa using h), fun h => hF.out.f3 (by simpa using h), fun h => hF.out.f4 (by simpa using h), fun h => hF.out.f5 (by simpa using h), fun _ => rfl, fun h => hF.out.f7 (by simpa using h), fun h => hF.out.f8 (by simpa using h), fun h => by have := hF.out.o7_3 (by simpa using h); simpa using this, fun h => by have := hF.out.o8_3 (by simpa using h); simpa using this, fun _ => by simp, fun h => by simp at h, fun _ => HC.out.2.2, fun _ _ => ⟨HC.out.1, HC.out.2.1⟩, fun h => by have := HN8.out; simp [this] at h⟩
        · intro d a W hI hd hdep
          obtain ⟨o9, n9, c9, x26, x27, x28, x29, x30, x31, x32, x33, rfl, hF⟩ := hI
          have hd3 : d 3 = true := dep_of hdep 3 (by kernel_rfl)
          have hd4 : d 4 = true := dep_of hdep 4 (by kernel_rfl)
          obtain rfl := hF.out.f3 hd3
          obtain rfl := hF.out.f4 hd4
          have e7_3 := hd3
          clear hdep hd hd3 hd4
          intro K hK
          simp only [Act.put, List.setIfInBounds_toArray, List.set_cons_zero, List.set_cons_succ]
          go_simp
          refine hK.out _ _ ⟨o9, n9, c9, x26, x27, x28, (.slice (some ⟨g, 0, none⟩) p.follow.length cap), (.int .i64 (ii : Int)), x31, x32, (.pointer (some ⟨g, ii, none⟩)), by simp only [Act.put, List.setIfInBounds_toArray, List.set_cons_zero, List.set_cons_succ], ?_⟩
          exact ⟨fun h => hF.out.f0 (by simpa using h), fun h => hF.out.f1 (by simpa using h), fun h => hF.out.f2 (by simpa using h), fun h => hF.out.f3 (by simpa using h), fun h => hF.out.f4 (by simpa using h), fun h => hF.out.f5 (by simpa using h), fun h => hF.out.f6 (by simpa using h), fun _ => rfl, fun h => hF.out.f8 (by simpa using h), fun _ => by simpa using e7_3, fun h => by have := hF.out.o8_3 (by simpa using h); simpa using this, fun h => by have := hF.out.o8_6 (by simpa using h); simpa using this, fun h => hF.out.ca (by simpa using h), fun h => hF.out.gr (by simpa using h), fun h h2 => hF.out.cb (by simpa using h) (by simpa using h2), fun h => hF.out.fin (by simpa using h)⟩
        · intro d a W hI hd hdep
          obtain ⟨o9, n9, c9, x26, x27, x28, x29, x30, x31, x32, x33, rfl, hF⟩ := hI
          have hd7 : d 7 = true := dep_of hdep 7 (by kernel_rfl)
          have hd6 : d 6 = true := dep_of hdep 6 (by kernel_rfl)
          obtain rfl := hF.out.f7 hd7
          obtain rfl := hF.out.f6 hd6
          have e8_6 := hd6
          have e8_3 := hF.out.o7_3 hd7
          have hin := HPM.out.inner HII.out HV3.out (hF.out.gr hd) (hF.out.cb hd6 hd).1 (hF.out.cb hd6 hd).2
          have ya := (cell_as hin.1 ii).trans HL.out.1
          have yb := (frozen_as hin.1 ii).trans HL.out.2
          have HFIN : Hid (Pm base gp v (upd V ii (.slice o9 n9 c9)) (⟨p.cls, p.rules, p.first, p.follow.set ii (Go.Lib.compact ls), p.last, p.empty⟩ : P) (W.setCell ⟨g, ii, none⟩ (.slice o9 n9 c9)) ∧ Fm (Own gp v V p.follow.length) w0 (W.setCell ⟨g, ii, none⟩ (.slice o9 n9 c9)) ∧ ∀ q, Own gp v (upd V ii (.slice o9 n9 c9)) (p.follow.set ii (Go.Lib.compact ls)).length q → Own gp v V p.follow.length q ∨ w0.heap.size ≤ q) := hin.2
          clear hin
          clear hdep hd hd7 hd6
          intro K hK
          simp only [Act.put, List.setIfInBounds_toArray, List.set_cons_zero, List.set_cons_succ]
          go_simp
          refine hK.out _ _ ⟨o9, n9, c9, x26, x27, x28, x29, x30, x31, (.slice o9 n9 c9), (.pointer (some ⟨g, ii, none⟩)), by simp only [Act.put, List.setIfInBounds_toArray, List.set_cons_zero, List.set_cons_succ], ?_⟩
          exact ⟨fun h => hF.out.f0 (by simpa using h), fun h => hF.out.f1 (by simpa using h), fun h => hF.out.f2 (by simpa using h), fun h => hF.out.f3 (by simpa using h), fun h => hF.out.f4 (by simpa using h), fun h => hF.out.f5 (by simpa using h), fun h => hF.out.f6 (by simpa using h), fun h => hF.out.f7 (by simpa using h), fun _ => trivial, fun h => by have := hF.out.o7_3 (by simpa using h); simpa using this, fun _ => by simpa using e8_3, fun _ => by simpa using e8_6, fun h => by have := e8_6; simp [this] at h, fun h => by simp at h, fun _ h => by simp at h, fun _ => HFIN.out⟩
      · intro d a W hI hall
        obtain ⟨o9, n9, c9, x26, x27, x28, x29, x30, x31, x32, x33, rfl, hF⟩ := hI
        simp only [List.length_cons, List.length_nil] at hall
        obtain rfl := hF.out.f0 (hall 0 (by omega))
        obtain rfl := hF.out.f1 (hall 1 (by omega))
        obtain rfl := hF.out.f2 (hall 2 (by omega))
        obtain rfl := hF.out.f3 (hall 3 (by omega))
        obtain rfl := hF.out.f4 (hall 4 (by omega))
        obtain rfl := hF.out.f5 (hall 5 (by omega))
        obtain rfl := hF.out.f6 (hall 6 (by omega))
        obtain rfl := hF.out.f7 (hall 7 (by omega))
        have HFN : Hid (Pm base gp v (upd V ii (.slice o9 n9 c9)) (⟨p.cls, p.rules, p.first, p.follow.set ii (Go.Lib.compact ls), p.last, p.empty⟩ : P) W ∧ Fm (Own gp v V p.follow.length) w0 W ∧ ∀ q, Own gp v (upd V ii (.slice o9 n9 c9)) (p.follow.set ii (Go.Lib.compact ls)).length q → Own gp v V p.follow.length q ∨ w0.heap.size ≤ q) := hF.out.fin (hall 8 (by omega))
        clear hF hall
        simp only [Act.put, List.setIfInBounds_toArray, List.set_cons_zero, List.set_cons_succ]
        obtain ⟨x9, rfl⟩ : ∃ q, q = W := ⟨_, rfl⟩
        go_wp2_with fail
        go_roundw
        case rel =>
          refine ⟨k + 1, by omega, by go_num, ?_⟩
          have h9 := HFN.out
          rw [HP.out] at h9
          refine ⟨upd V ii (.slice o9 n9 c9), ?_, HFW.out.trans h9.2.1 (fun q hq hx => (HOW.out q (by simpa [Pm.link_length] using hx)).resolve_right (by omega)), fun q hq => ?_⟩
          · rw [HLK.out]; exact h9.1
          · rcases h9.2.2 q (by simpa [Pm.link_length] using hq) with hx | hx
            · exact HOW.out q (by simpa [Pm.link_length] using hx)
            · exact Or.inr (Nat.le_trans HFW.out.size hx)
        case measure => simp [intOf]; omega
    · have hk1 : ¬ (k : Int) < (fr.length : Int) := by omega
      have hke : fr.take k = fr := List.take_of_length_le (by omega)
      rw [hke] at HR
      clear hke
      go_wp2_with fail
      go_end0
      exact ⟨rfl, HR.out⟩
end Go.Proofs.Ytlmlkpdppkgenaa
