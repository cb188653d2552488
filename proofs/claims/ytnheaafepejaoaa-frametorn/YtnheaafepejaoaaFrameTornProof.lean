/-
  Whatever frames and place are handed in, the call of pushkeep.FrameTorn returns true: of a stream that was torn just the whole frames are told, and the rest waits. Conditions: none.
-/
import Derived.Test.YtnheaafepejaoaaRows
import Derived.WalkKit
import Derived.ProofKit
import Derived.OpenShut
import Derived.ShutString
import Derived.SizedLaws
import Derived.ChangeOld
import Derived.Below
import Derived.Carry
import Derived.WalkLawsBesides
import Derived.WalkSpells
import Derived.Test.YtnheaafepejaoaaOpens
import Derived.Deep.QuietTactic
import Derived.BigQuiet
import Derived.Test.YtnheaafepejaoaaAppends
import Derived.Test.YtnheaafepejaoaaDraws
import Derived.Test.YtnheaafepejaoaaWides
namespace Go.Proofs.Ytnheaafepejaoaa.frameTorn
open Go.ChangeShapes Go.WideShapes Go.ChangeAt Go.RowKit
open Go.ChangeMaps (open_string shut_string)
open Frm
set_option linter.unusedVariables false

theorem own : ownKnob Try.prog.godebug = none := by kernel_rfl
theorem laidOut : laidOutB Try.prog = true := by kernel_rfl
/-- The frames that can be written. -/
def goods (fs : List Fr) : List Fr := fs.filter (fun f => decide (chk f = 0))
theorem goods_append (a b : List Fr) : goods (a ++ b) = goods a ++ goods b := by simp [goods]
theorem goods_one (f : Fr) (h : chk f = 0) : goods [f] = [f] := by simp [goods, h]
theorem goods_none (f : Fr) (h : chk f ≠ 0) : goods [f] = [] := by simp [goods, h]
theorem goods_ok (fs : List Fr) : ∀ f ∈ goods fs, chk f = 0 := by
  intro f hf
  simp only [goods, List.mem_filter, decide_eq_true_eq] at hf
  exact hf.2
theorem info3 : (Try.prog.info? 3).map (fun i => (i.zero, i.size, i.bytes)) = some (some (.int .i64 0), 1, 8) := by kernel_rfl
/-- Where the first so many frames end. -/
def pos (gs : List Fr) (j : Nat) : Nat := (wires (gs.take j)).length
/-- Where each frame ends. -/
def ends (gs : List Fr) : List Value := (List.range gs.length).map (fun j => Value.int .i64 ((pos gs (j + 1) : Nat) : Int))
theorem ends_length (gs : List Fr) : (ends gs).length = gs.length := by simp [ends]
theorem ends_snoc (gs : List Fr) (f : Fr) : ends (gs ++ [f]) = ends gs ++ [.int .i64 (((wires (gs ++ [f])).length : Nat) : Int)] := by
  unfold ends
  rw [List.length_append, List.length_singleton, List.range_succ, List.map_append]
  congr 1
  · apply List.map_congr_left
    intro j hj
    have hj2 : j < gs.length := by simpa using hj
    unfold pos
    rw [List.take_append_of_le_length (by omega)]
  · simp only [List.map_cons, List.map_nil]
    unfold pos
    rw [List.take_of_length_le (by simp)]
theorem ends_at (gs : List Fr) (j : Nat) (h : j < gs.length) : (ends gs)[j]? = some (.int .i64 ((pos gs (j + 1) : Nat) : Int)) := by
  simp [ends, h]
theorem ends_one (gs : List Fr) : ∀ u ∈ ends gs, u.oneCell' = true := by
  intro u hu
  simp only [ends, List.mem_map] at hu
  obtain ⟨j, _, rfl⟩ := hu
  rfl
theorem wires_cut (gs : List Fr) (j : Nat) : wires gs = wires (gs.take j) ++ wires (gs.drop j) := by
  have : ∀ a b : List Fr, wires (a ++ b) = wires a ++ wires b := fun a b => by simp [wires]
  rw [← this, List.take_append_drop]
theorem own_cap {w : World} {base e size n : Nat} {v : Value} {xs : List Value} (h : w.ownsRow base e size v n xs) : ∃ ao c, v = .slice ao n c ∧ n ≤ c := by
  obtain ⟨_, ⟨h1, h2⟩ | ⟨g, cap, cur, hv, hg, hh, hn, _⟩⟩ := h
  · exact ⟨none, 0, by rw [h1, h2], by omega⟩
  · exact ⟨_, cap, hv, hn⟩
theorem own_nums {w : World} {base : Nat} {v : Value} {gs : List Fr} (h : w.ownsRow base 3 1 v gs.length (ends gs)) : ∃ a c, v = .slice a gs.length c ∧ (gs.length = 0 ∨ ∃ g, a = some ⟨g, 0, none⟩ ∧ g < w.heap.size ∧ ∀ j, j < gs.length → w.cell? ⟨g, j, none⟩ = some (.int .i64 ((pos gs (j + 1) : Nat) : Int))) := by
  by_cases h0 : gs.length = 0
  · obtain ⟨ao, c, hv, _⟩ := own_cap h
    exact ⟨ao, c, hv, Or.inl h0⟩
  · obtain ⟨g, cap, hv, _, hlt⟩ := h.form (by omega)
    refine ⟨some ⟨g, 0, none⟩, cap, hv, Or.inr ⟨g, rfl, hlt, fun j hj => ?_⟩⟩
    have := h.cells (g := g) (by rw [hv]; rfl) j _ (ends_at gs j hj)
    rwa [Go.WideShapes.add_plain, Nat.zero_add] at this
theorem disj {a b : Option Nat} (h : ∀ g, a = some g → b ≠ some g) : b = none ∨ b ≠ a := by
  cases b with
  | none => exact Or.inl rfl
  | some x => exact Or.inr (fun e => h x e.symm rfl)
theorem pos_zero (gs : List Fr) : pos gs 0 = 0 := by simp [pos, wires]
theorem pos_le (gs : List Fr) (j : Nat) : pos gs j ≤ (wires gs).length := by
  have := wires_cut gs j
  unfold pos
  rw [this, List.length_append]; omega
/-- A stream that was torn. -/
theorem torn (gs : List Fr) (hok : ∀ f ∈ gs, chk f = 0) (j K : Nat) (hj : j ≤ gs.length) (h1 : pos gs j ≤ K) (h2 : j = gs.length ∨ K < pos gs (j + 1)) :
    ff ((wires gs).take K) = (gs.take j, ((wires gs).drop (pos gs j)).take (K - pos gs j), 0) := by
  have hs := wires_cut gs j
  have hd : (wires gs).drop (pos gs j) = wires (gs.drop j) := by rw [hs]; exact List.drop_left
  have ht : (wires gs).take K = wires (gs.take j) ++ (wires (gs.drop j)).take (K - pos gs j) := by
    rw [hs, List.take_append]
    congr 1
    exact List.take_of_length_le h1
  rw [hd, ht, ff_wires _ (fun f hf => hok f (List.mem_of_mem_take hf))]
  have hw : ff ((wires (gs.drop j)).take (K - pos gs j)) = ([], (wires (gs.drop j)).take (K - pos gs j), 0) := by
    by_cases hl : j < gs.length
    · have hlt : K < pos gs (j + 1) := by rcases h2 with h2 | h2; omega; exact h2
      have hp : pos gs (j + 1) = pos gs j + (wire gs[j]).length := by
        unfold pos
        rw [List.take_succ_eq_append_getElem hl, wires_snoc, List.length_append]
      rw [List.drop_eq_getElem_cons hl]
      show ff ((wire gs[j] ++ wires (gs.drop (j + 1))).take (K - pos gs j)) = _
      have he : (wire gs[j] ++ wires (gs.drop (j + 1))).take (K - pos gs j) = (wire gs[j]).take (K - pos gs j) := List.take_append_of_le_length (by omega)
      show _ = ([], (wire gs[j] ++ wires (gs.drop (j + 1))).take (K - pos gs j), 0)
      rw [he]
      exact ff_torn gs[j] (hok _ (List.getElem_mem hl)) _ (by omega)
    · have : gs.drop j = [] := List.drop_eq_nil_of_le (by omega)
      rw [this]
      show ff (([] : List UInt8).take _) = ([], ([] : List UInt8).take _, 0)
      rw [List.take_nil]
      exact ff_wait [] (by decide) (by decide)
  rw [hw]
  simp [Frm.ahead]
theorem torn_some (gs : List Fr) (K : Nat) : ∀ n, n ≤ gs.length → ∃ j, j ≤ n ∧ pos gs j ≤ K ∧ (j = n ∨ K < pos gs (j + 1))
  | 0, _ => ⟨0, Nat.le_refl _, by rw [pos_zero]; omega, Or.inl rfl⟩
  | n + 1, h => by
    by_cases hp : pos gs (n + 1) ≤ K
    · exact ⟨n + 1, Nat.le_refl _, hp, Or.inl rfl⟩
    · obtain ⟨j, h1, h2, h3⟩ := torn_some gs K n (by omega)
      refine ⟨j, by omega, h2, Or.inr ?_⟩
      rcases h3 with h3 | h3
      · subst h3; omega
      · exact h3
theorem torn_small (gs : List Fr) (hok : ∀ f ∈ gs, chk f = 0) (K : Nat) : (ff ((wires gs).take K)).1.length ≤ gs.length ∧ (ff ((wires gs).take K)).2.1.length ≤ 1032 := by
  obtain ⟨j, h1, h2, h3⟩ := torn_some gs K gs.length (Nat.le_refl _)
  rw [torn gs hok j K h1 h2 h3]
  refine ⟨by simp only [List.length_take]; omega, ?_⟩
  simp only [List.length_take, List.length_drop]
  by_cases hl : j < gs.length
  · have hlt : K < pos gs (j + 1) := by rcases h3 with h3 | h3; omega; exact h3
    have hp : pos gs (j + 1) = pos gs j + (wire gs[j]).length := by
      unfold pos
      rw [List.take_succ_eq_append_getElem hl, wires_snoc, List.length_append]
    have hc := chk_ok gs[j] (hok _ (List.getElem_mem hl))
    have hw := wire_length gs[j]
    omega
  · have : pos gs j = (wires gs).length := by unfold pos; rw [List.take_of_length_le (by omega)]
    omega

/-! ### The walk: the Go text returns true. -/
set_option maxHeartbeats 3200000 in
set_option maxRecDepth 20000 in
theorem walk (v0 : Value) (a0l : List Frm.Fr) (a1 : Int) (w : World) (w0s : Frs w v0 a0l) (w0z : a0l.length ≤ 4398046510976) (w1 : (Lit.int .i64 a1).wf = true) :
    Calls Try.prog 8 #[v0, .int .i64 a1] w fun e w' => e = .returned (.bool true) ∧ Below w.heap.size w w' := by
  obtain ⟨i0, hi, hz0, hz1, hz2⟩ := info_parts info23
  obtain ⟨j0, hj, hy0, hy1, hy2⟩ := info_parts info3
  have hat := bounds_i64 w1
  clear w1
  obtain ⟨ao, cap, rfl, hm, hfs⟩ := w0s
  go_enter Try.func8, Try.ntmps8
  go_wp2_with fail
  go_loopw [22, 5, 6, 7] (fun i t ve v wr => ∃ (k : Nat) (T : ByteArray), k ≤ a0l.length ∧ i = .int .i64 (k : Int) ∧ t = .string T ∧ Hid (T.data.toList = wires (goods (a0l.take k))) ∧ T.size ≤ 1032 * k ∧ (goods (a0l.take k)).length ≤ k ∧ wr.ownsRow w.heap.size 23 3 v (goods (a0l.take k)).length (fcs (goods (a0l.take k))) ∧ wr.ownsRow w.heap.size 3 1 ve (goods (a0l.take k)).length (ends (goods (a0l.take k))) ∧ Hid (∀ g, ve.ownBlock = some g → v.ownBlock ≠ some g) ∧ Below w.heap.size w wr) (fun i _ _ _ _ => a0l.length - (intOf i).toNat)
  case atStart => exact ⟨0, ⟨#[]⟩, by omega, rfl, rfl, by show _ = _; rfl, by simp [ByteArray.size], by simp [goods], World.ownsRow_nil _ _ _ _, World.ownsRow_nil _ _ _ _, (by intro g hg; simp [Value.ownBlock] at hg), Below.refl _ _⟩
  case round =>
    obtain ⟨k, T, hk, rfl, rfl, HT, hTs, hgl, hown, howne, HD, hbel⟩ := hrel
    have hsb := hbel.size
    by_cases hlt : k < a0l.length
    · have hne : a0l ≠ [] := by intro e; subst e; simp at hlt
      obtain ⟨b, o, rfl, hb, hc⟩ := hfs.resolve_left hne
      obtain ⟨x0, x1, x2⟩ := hc k hlt
      have HG : Hid (goods (a0l.take (k + 1)) = goods (a0l.take k) ++ goods [a0l[k]]) := by show _ = _; rw [List.take_succ_eq_append_getElem hlt, goods_append]
      generalize a0l[k] = f at x0 x1 x2 HG
      obtain ⟨kk, wh, bd⟩ := f
      simp only at x0 x1 x2
      have c0 : wr.cell? ⟨b, o + k * 3, none⟩ = some (.int .i64 kk) := (hbel.cell (p := ⟨b, o + k * 3, none⟩) hb).trans x0
      have c1 : wr.cell? ⟨b, o + k * 3 + 1, none⟩ = some (.int .i64 wh) := (hbel.cell (p := ⟨b, o + k * 3 + 1, none⟩) hb).trans x1
      have c2 : wr.cell? ⟨b, o + k * 3 + 2, none⟩ = some (.string bd) := (hbel.cell (p := ⟨b, o + k * 3 + 2, none⟩) hb).trans x2
      have hk0 : (0 : Int) ≤ (k : Int) := by omega
      have hk1 : (k : Int) < (a0l.length : Int) := by omega
      clear x0 x1 x2 hc hfs
      go_wp2_with fail
      refine (write_parts kk wh bd _).mono ?_
      rintro e w2 ⟨rfl, hb1⟩
      have s2 := hb1.size
      rw [World.size_alloc] at s2
      have z0 : w2.cell? ⟨wr.heap.size, 0, none⟩ = some (.int .i64 kk) := by rw [hb1.cell (by simp)]; simp
      have z1 : w2.cell? ⟨wr.heap.size, 1, none⟩ = some (.int .i64 wh) := by rw [hb1.cell (by simp)]; simp
      have z2 : w2.cell? ⟨wr.heap.size, 2, none⟩ = some (.string bd) := by rw [hb1.cell (by simp)]; simp
      have B2 : Below w.heap.size w w2 := (hbel.alloc hsb _).trans (hb1.mono (by simp; omega))
      have O2 := own_below (hown.alloc _) hb1 (Nat.le_refl _)
      have E2 := own_below (howne.alloc _) hb1 (Nat.le_refl _)
      have L7 : ∀ g, u7.ownBlock = some g → g < wr.heap.size := fun g hg => (hown.lt g hg).2
      have L6 : ∀ g, u6.ownBlock = some g → g < wr.heap.size := fun g hg => (howne.lt g hg).2
      have HL7 : Hid (∀ g, u7.ownBlock = some g → g < wr.heap.size) := L7
      have HL6 : Hid (∀ g, u6.ownBlock = some g → g < wr.heap.size) := L6
      clear hb1 hbel hown howne c0 c1 c2 L7 L6
      by_cases h : chk ⟨kk, wh, bd⟩ = 0
      · rw [h, out_good _ h]
        have hl := wire_length ⟨kk, wh, bd⟩
        obtain ⟨_, _, _, _, h5⟩ := chk_ok ⟨kk, wh, bd⟩ h
        simp only at h5 hl
        obtain ⟨S, HS, hSs⟩ : ∃ S : ByteArray, Hid (S = ⟨(wire ⟨kk, wh, bd⟩).toArray⟩) ∧ S.size ≤ 1032 := ⟨_, rfl, by rw [size_mk (wire ⟨kk, wh, bd⟩)]; omega⟩
        rw [← HS.out]
        have hadd : T.size + S.size ≤ 9223372036854775807 := by omega
        have HG2 : Hid (goods (a0l.take (k + 1)) = goods (a0l.take k) ++ [⟨kk, wh, bd⟩]) := by show _ = _; rw [HG.out, goods_one _ h]
        have HT2 : Hid ((T ++ S).data.toList = wires (goods (a0l.take (k + 1)))) := by
          show _ = _
          rw [HG2.out, wires_snoc, ← HT.out, HS.out]
          simp
        have hTS : (T ++ S).size = T.size + S.size := by simp
        have HLn : Hid (((wires (goods (a0l.take k) ++ [⟨kk, wh, bd⟩])).length : Nat) = T.size + S.size) := by show _ = _; rw [← HG2.out, ← HT2.out, len_list, hTS]
        go_wp2_with (at_builtin; refine wpList_append_lies _ rfl (.tmp 36) (.tmp 39) 39 rfl w.heap.size 3 j0 (.int .i64 0) 1 8 Try.underlying39 hj hy0 hy1 hy2 rfl (by decide) _ _ _ rfl (E2.alloc _) ⟨w2.heap.size, 0, none⟩ 1 1 [.int .i64 ((T.size : Int) + (S.size : Int))] rfl rfl (World.news_of_block (t := 3) (fr := (0, 0)) (heap_alloc_new w2 _)) (by simp [Value.oneCell']) (by omega) (by unfold maxLen; omega) (by omega) (by simp; omega) (w2.heap.size + 1) (by simp) ?_)
        intro ge ce w3 hownE hgrowE hatE hltE
        have s3 := hgrowE.size
        rw [World.size_alloc] at s3
        have O3 := (O2.alloc (Obj.cells #[.int .i64 ((T.size : Int) + (S.size : Int))] 3)).kept hgrowE (disj HD.out)
        have hn6 : ∀ j, some ((⟨wr.heap.size, j, none⟩ : Addr).block) ≠ u6.ownBlock := fun j e => by have := HL6.out _ e.symm; simp at this
        have q0 : w3.cell? ⟨wr.heap.size, 0, none⟩ = some (.int .i64 kk) := hgrowE.cell ((World.cell?_alloc_old w2 _ ⟨wr.heap.size, 0, none⟩ (Nat.ne_of_lt (by show wr.heap.size < _; omega))).trans z0) (hn6 0)
        have q1 : w3.cell? ⟨wr.heap.size, 1, none⟩ = some (.int .i64 wh) := hgrowE.cell ((World.cell?_alloc_old w2 _ ⟨wr.heap.size, 1, none⟩ (Nat.ne_of_lt (by show wr.heap.size < _; omega))).trans z1) (hn6 1)
        have q2 : w3.cell? ⟨wr.heap.size, 2, none⟩ = some (.string bd) := hgrowE.cell ((World.cell?_alloc_old w2 _ ⟨wr.heap.size, 2, none⟩ (Nat.ne_of_lt (by show wr.heap.size < _; omega))).trans z2) (hn6 2)
        have B3 : Below w.heap.size w w3 := Below.grown (B2.alloc (by omega) _) hgrowE (by simp; omega) (own_ge E2)
        have hne7 : u7.ownBlock ≠ some ge := by
          rcases hatE with e | e
          · exact HD.out ge e
          · intro e7
            have := HL7.out ge e7
            omega
        have HE7 : Hid (u7.ownBlock ≠ some ge) := hne7
        clear hgrowE O2 E2 z0 z1 z2 B2 hn6 hatE hne7
        go_wp2_with (at_builtin; refine wpList_append_lies _ rfl (.tmp 41) (.tmp 43) 32 rfl w.heap.size 23 i0 (.agg #[.int .i64 0, .int .i64 0, .string ⟨#[]⟩]) 3 32 Try.underlying32 hi hz0 hz1 hz2 rfl (by decide) _ _ _ rfl (O3.alloc _) ⟨w3.heap.size, 0, none⟩ 1 1 [.int .i64 kk, .int .i64 wh, .string bd] rfl rfl (World.news_of_block (t := 23) (fr := (0, 0)) (heap_alloc_new w3 _)) (by simp [Value.oneCell']) (by omega) (by unfold maxLen; omega) (by omega) (by simp; omega) (w3.heap.size + 1) (by simp) ?_)
        intro gw cw w5 hownW hgrowW hatW hltW
        have R1 : w5.ownsRow w.heap.size 23 3 (.slice (some ⟨gw, 0, none⟩) ((goods (a0l.take k)).length + 1) cw) (goods (a0l.take (k + 1))).length (fcs (goods (a0l.take (k + 1)))) := by rw [HG2.out, fcs_one_snoc, List.length_append]; exact hownW
        have R2 : w5.ownsRow w.heap.size 3 1 (.slice (some ⟨ge, 0, none⟩) ((goods (a0l.take k)).length + 1) ce) (goods (a0l.take (k + 1))).length (ends (goods (a0l.take (k + 1)))) := by
          rw [HG2.out, ends_snoc, List.length_append, HLn.out]
          exact (hownE.alloc _).kept hgrowW (Or.inr (fun e => HE7.out e.symm))
        have R3 : Hid (∀ g, (Value.slice (some ⟨ge, 0, none⟩) ((goods (a0l.take k)).length + 1) ce).ownBlock = some g → (Value.slice (some ⟨gw, 0, none⟩) ((goods (a0l.take k)).length + 1) cw).ownBlock ≠ some g) := by
          intro g hg hg2
          simp only [Value.ownBlock, Option.some.injEq] at hg hg2
          subst hg
          subst hg2
          rcases hatW with e | e
          · exact HE7.out e
          · omega
        have R4 : Below w.heap.size w w5 := Below.grown (B3.alloc (by omega) _) hgrowW (by simp; omega) (own_ge O3)
        clear hownW hgrowW hatW hownE O3 B3 q0 q1 q2 HT HD
        go_wp2_with fail
        go_roundw
        case rel => exact ⟨k + 1, T ++ S, by omega, by go_num, rfl, HT2, by omega, by rw [HG2.out, List.length_append]; simp; omega, R1, R2, R3, R4⟩
        case measure => simp [intOf]; omega
      · rw [out_bad _ h]
        have hb : (((chk ⟨kk, wh, bd⟩ : Nat) : Int) == 0) = false := by simp; omega
        have HG2 : Hid (goods (a0l.take (k + 1)) = goods (a0l.take k)) := by show _ = _; rw [HG.out, goods_none _ h, List.append_nil]
        go_wp2_with fail
        go_roundw
        case rel => exact ⟨k + 1, T, by omega, by go_num, rfl, by show _ = _; rw [HG2.out]; exact HT.out, by omega, by rw [HG2.out]; omega, by rw [HG2.out]; exact O2, by rw [HG2.out]; exact E2, HD, B2⟩
        case measure => simp [intOf]; omega
    · have hkn : k = a0l.length := by omega
      subst hkn
      rw [List.take_of_length_le (Nat.le_refl _)] at HT hgl hown howne
      obtain ⟨gs, HGS⟩ : ∃ gs, Hid (gs = goods a0l) := ⟨_, rfl⟩
      have HOK : Hid (∀ f ∈ gs, chk f = 0) := by show ∀ f ∈ gs, chk f = 0; rw [HGS.out]; exact goods_ok a0l
      rw [← HGS.out] at HT hgl hown howne
      have F7 : Frs wr u7 gs := frs_of_own hown (by omega)
      obtain ⟨ao7, c7, rfl, hc7⟩ := own_cap hown
      obtain ⟨a6, c6, rfl, H6⟩ := own_nums howne
      have HTl : Hid ((wires gs).length = T.size) := by show _ = _; rw [← HT.out]; exact len_list T
      clear hown howne HD hfs
      have e9 := out_good ⟨1, 0, ⟨#[97]⟩⟩ (by decide)
      obtain ⟨S9, HS9, hS9, h49⟩ : ∃ S9 : ByteArray, Hid (S9 = ⟨(wire ⟨1, 0, ⟨#[97]⟩⟩).toArray⟩) ∧ ∃ (h : S9.size = 9), (S9[4]'(by omega)).toNat = 97 := ⟨_, rfl, by rw [size_mk, wire_length]; rfl, by rfl⟩
      go_wp2_with fail
      refine (rest_wide a1 ((T.size : Int) + 1) hat (by omega) (by omega) _).mono ?_
      rintro e w2 ⟨⟨K, rfl, hK⟩, hw2⟩
      subst hw2
      have q0 : (0 : Int) ≤ (K : Int) := by omega
      have q1 : (K : Int) ≤ (T.size : Int) := by omega
      go_wp2_with fail
      have HL1 : Hid ((ByteArray.mk #[]).data.toList ++ (T.extract 0 K).data.toList = (wires gs).take K) := by
        show (T.extract 0 K).data.toList = _
        rw [front_list, HT.out]
      have hts := torn_small gs HOK.out K
      refine (feed_wide ⟨#[]⟩ (T.extract 0 K) (by show 0 + (T.extract 0 K).size ≤ _; simp; omega) (by rw [HL1.out]; omega) (by rw [HL1.out]; omega) _).mono ?_
      rintro e w3 ⟨v14, rfl, hown14, hb3⟩
      rw [HL1.out] at hown14 ⊢
      clear hts
      obtain ⟨fs3, R3, e3, HF3⟩ : ∃ fs3 R3 e3, Hid (ff ((wires gs).take K) = (fs3, R3, e3)) := ⟨_, _, _, rfl⟩
      rw [HF3.out] at hown14 ⊢
      simp only at hown14 ⊢
      have s3 := hb3.size
      obtain ⟨X, HXx⟩ : ∃ X, X = Obj.cells #[.string ⟨R3.toArray⟩, .int .i64 (e3 : Int)] 31 (0, 0) := ⟨_, rfl⟩
      have hcell : Hid (gs.length = 0 ∨ ∃ g, a6 = some ⟨g, 0, none⟩ ∧ ∀ j, j < gs.length → (w3.alloc (Obj.cells #[.string ⟨R3.toArray⟩, .int .i64 (e3 : Int)] 31)).cell? ⟨g, j, none⟩ = some (.int .i64 ((pos gs (j + 1) : Nat) : Int))) := by
        rcases H6 with h | ⟨g, h1, h2, h3⟩
        · exact Or.inl h
        · exact Or.inr ⟨g, h1, fun j hj => (World.cell?_alloc_old w3 _ ⟨g, j, none⟩ (Nat.ne_of_lt (by show g < _; omega))).trans ((hb3.cell (p := ⟨g, j, none⟩) h2).trans (h3 j hj))⟩
      clear HXx
      go_wp2_with fail
      go_loopw [16, 17] (fun kv fv wx => ∃ j, j ≤ gs.length ∧ kv = .int .i64 (j : Int) ∧ fv = .int .i64 ((pos gs j : Nat) : Int) ∧ pos gs j ≤ K ∧ wx = w3.alloc (Obj.cells #[.string ⟨R3.toArray⟩, .int .i64 (e3 : Int)] 31)) (fun kv _ _ => gs.length - (intOf kv).toNat)
      case atStart => exact ⟨0, by omega, rfl, by rw [pos_zero]; rfl, by rw [pos_zero]; omega, rfl⟩
      case round =>
        obtain ⟨j, hjl, rfl, rfl, hpj, rfl⟩ := hrel
        by_cases hjlt : j < gs.length
        · obtain ⟨g, rfl, hcs⟩ := hcell.out.resolve_left (by omega)
          have hc := hcs j hjlt
          clear hcs
          have t0 : (0 : Int) ≤ (j : Int) := by omega
          have t1 : (j : Int) < (gs.length : Int) := by omega
          obtain ⟨P1, HP1⟩ : ∃ P1, Hid (P1 = pos gs (j + 1)) := ⟨_, rfl⟩
          rw [← HP1.out] at hc
          by_cases hgo : P1 ≤ K
          · have t2 : (P1 : Int) ≤ (K : Int) := by omega
            go_wp2_with fail
            go_roundw
            case rel => exact ⟨j + 1, by omega, by go_num, by rw [HP1.out], by rw [← HP1.out]; omega, by first | rfl | trivial⟩
            case measure => simp [intOf]; omega
          · have t2 : (K : Int) < (P1 : Int) := by omega
            have hexit : j = gs.length ∨ K < pos gs (j + 1) := Or.inr (by rw [← HP1.out]; omega)
            have HEX : Hid (j = gs.length ∨ K < pos gs (j + 1)) := hexit
            clear hexit
            go_wp2_with fail
            have hexit := HEX.out
            clear hc
            refine (write_parts 1 0 ⟨#[97]⟩ _).mono ?_
            rintro e w5 ⟨rfl, hb5⟩
            rw [e9, show chk ⟨1, 0, ⟨#[97]⟩⟩ = 0 by decide, ← HS9.out]
            have s5 := hb5.size
            rw [World.size_alloc] at s5
            have hbk : w5.heap[w3.heap.size]? = some (Obj.cells #[.string ⟨R3.toArray⟩, .int .i64 (e3 : Int)] 31 (0, 0)) := (hb5.block _ (by simp)).trans (heap_alloc_new w3 _)
            have HW : (fs3, R3, e3) = (gs.take j, ((wires gs).drop (pos gs j)).take (K - pos gs j), 0) := by rw [← HF3.out]; exact torn gs HOK.out j K hjl hpj hexit
            have W0 : fs3 = gs.take j := (Prod.ext_iff.1 HW).1
            have W1 : R3 = ((wires gs).drop (pos gs j)).take (K - pos gs j) := (Prod.ext_iff.1 (Prod.ext_iff.1 HW).2).1
            have W2 : e3 = 0 := (Prod.ext_iff.1 (Prod.ext_iff.1 HW).2).2
            have HX : (ByteArray.mk R3.toArray) = T.extract (pos gs j) K := by
              apply ByteArray.ext
              apply Array.ext'
              have := ext_list T (pos gs j) (K - pos gs j)
              rw [show pos gs j + (K - pos gs j) = K by omega] at this
              rw [this, HT.out, W1]
            rw [HX, W2] at hbk
            have d0 : w5.cell? ⟨w3.heap.size, 0, none⟩ = some (.string (T.extract (pos gs j) K)) := block_cell hbk 0
            have d1 : w5.cell? ⟨w3.heap.size, 1, none⟩ = some (.int .i64 0) := block_cell hbk 1
            have A3 : Below w3.heap.size w3 w5 := ((Below.refl _ _).alloc (Nat.le_refl _) _).trans (hb5.mono (by simp))
            have G1 : Frs w5 v14 (gs.take j) := by rw [← W0]; exact (frs_of_own hown14 (by rw [W0, List.length_take]; omega)).below A3 (Nat.le_refl _)
            have G2 : Frs w5 (.slice ao7 gs.length c7) gs := (F7.below hb3 (Nat.le_refl _)).below A3 (Nat.le_refl _)
            have G3 := G2.take j hjl c7
            have HB : Below w.heap.size w w5 := (hbel.trans (hb3.mono (by omega))).trans (A3.mono (by have := hb3.size; omega))
            subst W2
            clear HW W0 W1 hbk hb5 A3 HX hcell hb3 hown14 F7 G2 hbel
            obtain ⟨P, HPp⟩ : ∃ P, Hid (P = pos gs j) := ⟨_, rfl⟩
            rw [← HPp.out] at d0 hpj ⊢
            have r0 : (0 : Int) ≤ (P : Int) := by omega
            have r1 : (P : Int) ≤ (K : Int) := by omega
            have r2 : (0 : Int) ≤ (j : Int) := by omega
            have r3 : (j : Int) ≤ (c7 : Int) := by omega
            go_wp2_with fail
            go_quiet ((go_at_call 15; refine Calls.quiet_of (equal_draws _ v14 _ (gs.take j) (by exact G1) (by exact G3))))
            have HB2 := HB.trans (Go.Joins.below_draws w.heap.size w5 nq)
            generalize w5.drewN nq = w6 at HB2 ⊢
            go_wp2_with fail
            go_ret
            exact ⟨rfl, HB2⟩
        · have t1 : (gs.length : Int) ≤ (j : Int) := by omega
          have HEX : Hid (j = gs.length ∨ K < pos gs (j + 1)) := Or.inl (by omega)
          go_wp2_with fail
          have hexit := HEX.out
          refine (write_parts 1 0 ⟨#[97]⟩ _).mono ?_
          rintro e w5 ⟨rfl, hb5⟩
          rw [e9, show chk ⟨1, 0, ⟨#[97]⟩⟩ = 0 by decide, ← HS9.out]
          have s5 := hb5.size
          rw [World.size_alloc] at s5
          have hbk : w5.heap[w3.heap.size]? = some (Obj.cells #[.string ⟨R3.toArray⟩, .int .i64 (e3 : Int)] 31 (0, 0)) := (hb5.block _ (by simp)).trans (heap_alloc_new w3 _)
          have HW : (fs3, R3, e3) = (gs.take j, ((wires gs).drop (pos gs j)).take (K - pos gs j), 0) := by rw [← HF3.out]; exact torn gs HOK.out j K hjl hpj hexit
          have W0 : fs3 = gs.take j := (Prod.ext_iff.1 HW).1
          have W1 : R3 = ((wires gs).drop (pos gs j)).take (K - pos gs j) := (Prod.ext_iff.1 (Prod.ext_iff.1 HW).2).1
          have W2 : e3 = 0 := (Prod.ext_iff.1 (Prod.ext_iff.1 HW).2).2
          have HX : (ByteArray.mk R3.toArray) = T.extract (pos gs j) K := by
            apply ByteArray.ext
            apply Array.ext'
            have := ext_list T (pos gs j) (K - pos gs j)
            rw [show pos gs j + (K - pos gs j) = K by omega] at this
            rw [this, HT.out, W1]
          rw [HX, W2] at hbk
          have d0 : w5.cell? ⟨w3.heap.size, 0, none⟩ = some (.string (T.extract (pos gs j) K)) := block_cell hbk 0
          have d1 : w5.cell? ⟨w3.heap.size, 1, none⟩ = some (.int .i64 0) := block_cell hbk 1
          have A3 : Below w3.heap.size w3 w5 := ((Below.refl _ _).alloc (Nat.le_refl _) _).trans (hb5.mono (by simp))
          have G1 : Frs w5 v14 (gs.take j) := by rw [← W0]; exact (frs_of_own hown14 (by rw [W0, List.length_take]; omega)).below A3 (Nat.le_refl _)
          have G2 : Frs w5 (.slice ao7 gs.length c7) gs := (F7.below hb3 (Nat.le_refl _)).below A3 (Nat.le_refl _)
          have G3 := G2.take j hjl c7
          have HB : Below w.heap.size w w5 := (hbel.trans (hb3.mono (by omega))).trans (A3.mono (by have := hb3.size; omega))
          subst W2
          clear HW W0 W1 hbk hb5 A3 HX hcell hb3 hown14 F7 G2 hbel
          obtain ⟨P, HPp⟩ : ∃ P, Hid (P = pos gs j) := ⟨_, rfl⟩
          rw [← HPp.out] at d0 hpj ⊢
          have r0 : (0 : Int) ≤ (P : Int) := by omega
          have r1 : (P : Int) ≤ (K : Int) := by omega
          have r2 : (0 : Int) ≤ (j : Int) := by omega
          have r3 : (j : Int) ≤ (c7 : Int) := by omega
          go_wp2_with fail
          go_quiet ((go_at_call 15; refine Calls.quiet_of (equal_draws _ v14 _ (gs.take j) (by exact G1) (by exact G3))))
          have HB2 := HB.trans (Go.Joins.below_draws w.heap.size w5 nq)
          generalize w5.drewN nq = w6 at HB2 ⊢
          go_wp2_with fail
          go_ret
          exact ⟨rfl, HB2⟩

/-! ### What the walk gives, for every argument -/
set_option maxRecDepth 100000 in
theorem contract (H : Type) (enc : TypeId × Value → H) (W : World) (base : Nat) (args : Array Value) (ds gs : List (DataW H)) (before : List MemPlace)
    (hval : ∀ (j : Nat) t v, Try.f8.params[j]? = some t → args[j]? = some v → Value.okWide Try.prog W .any base t v)
    (hW : DataW.Whole enc Try.prog Try.f8.params.toList Rows.frameTornSpec.vars false W args.toList ds gs before) (hsz : (DataW.weightsEach Try.prog (Try.f8.params.toList ++ Rows.frameTornSpec.plain.varTypes Try.prog) (ds ++ gs)).all (· ≤ reachBytes) = true) :
    Calls Try.prog 8 args W fun e W' => ∃ v, e = .returned v ∧ Rows.frameTornSpec.post enc Try.prog Try.f8 false true false false W args v W' := by
  have hW' := hW
  obtain ⟨p, q, hA0, hV, rfl, hfz, hnd⟩ := hW
  have hA : DataW.TrodAll enc Try.prog W 0 (fun _ => true) true Try.f8.params.toList args.toList ds p := hA0
  rw [Try.params8] at hA hval hsz
  obtain ⟨v0, vs0, d0, ds0, p0, q0, hargs, rfl, rfl, h0, r0⟩ := trodAll_cons hA
  obtain ⟨v1, vs1, d1, ds1, p1, q1, rfl, rfl, rfl, h1, r1⟩ := trodAll_cons r0
  obtain ⟨rfl, rfl, rfl⟩ := trodAll_nil r1
  obtain rfl : args = #[v0, v1] := by cases args; simp_all
  obtain ⟨rfl, rfl⟩ := trodVars_none hV
  have k0 := h0
  have lt0 : ∀ x ∈ p0, x.block < W.heap.size := by obtain ⟨m, hm⟩ := k0; exact DataW.trod_lt m _ _ _ hm
  obtain ⟨a0l, w0s, w0y⟩ := open_frs_wide (hval 0 32 v0 rfl rfl) h0
  obtain ⟨a1, rfl, rfl, rfl, w1⟩ := open_int Try.underlying3 (hval 1 3 v1 rfl rfl) h1
  have r0z : a0l.length ≤ 4398046510976 := by
    rcases w0y with h | ⟨el, sp, rfl, h⟩
    · rw [h]; simp
    · have := sized_slice hsz (j := 0) (t := 32) (e := 23) rfl rfl Try.underlying32
      rw [bytes23] at this
      simp only [reachBytes] at this
      omega
  clear hA0
  refine (walk _ a0l a1 W w0s r0z w1).mono fun e W' ⟨he, bel⟩ => ?_
  subst he
  exact ⟨_, rfl, _, _, _, [], _, [], hW', trodAll_mk1 (shut_bool Try.underlying4 _), (trodAll_cons_mk (Below.trod laidOut (by kernel_rfl) (of_decide_eq_true (by kernel_rfl)) k0 bel lt0) (trodAll_cons_mk (shut_int Try.underlying3 w1) trodAll_mk0)), rfl, bel.frame _, fun h => by cases h⟩

/-! ### The row's step -/
set_option maxRecDepth 100000 in
theorem lifted (os : Os) (started : os.Started) (H : Type) (enc : TypeId × Value → H) :
    ReturnsInHanded {} Try.checked os 8 .any (Rows.frameTornSpec.pre6 enc Try.prog Try.f8 Rows.frameTornRow.domain false) (Rows.frameTornSpec.post enc Try.prog Try.f8 false true false false) := by
  refine returnsInHanded_of_change_sized (C := Try.checked) own started (by kernel_rfl) Try.func8
    (ChangeSpec.witness6 (enc := enc) (C := Try.checked) false ⟨#[], #[.slice none 0 0, .int .i64 0], []⟩ 8 (by kernel_rfl) (by kernel_rfl) (by kernel_rfl) (by kernel_rfl)) ?_
  intro W base args ds gs before hval hW hcnd hsz _
  exact contract H enc W base args ds gs before hval hW hsz

theorem over : Rows.frameTornRow.holds Try.pinned (OpenSpec.ofChange Rows.frameTornSpec) :=
  OpenClaim.holds_of_wide 8 Try.f8 rfl rfl rfl rfl rfl rfl rfl ⟨rfl, rfl, rfl, rfl, rfl⟩ rfl rfl rfl rfl rfl (by kernel_rfl) Try.func8 (by kernel_rfl)
    (of_decide_eq_true (by kernel_rfl)) (by unfold Func.isWrapper; first | (rw [if_pos (by decide +kernel)]; kernel_rfl) | (rw [if_neg (by decide +kernel)]; exact ⟨rfl, rfl⟩))
    (fun os started H enc _ => lifted os started H enc)

end Go.Proofs.Ytnheaafepejaoaa.frameTorn
namespace Go.Proofs.Ytnheaafepejaoaa
/-- The given statement. -/
theorem frameTorn_holds : Rows.FrameTornSaid := frameTorn.over
#print axioms frameTorn_holds
end Go.Proofs.Ytnheaafepejaoaa
