/-
  The contracts of dfa.maker's row and behind. The contracts of dfa.maker's behind, of dfa.tagOf and of slices.Index at Bools. The contract of dfa.havingByte. The contract of dfa.tagOf. The contract of dfa.newMaker.
-/
import Derived.Test.YtlmlkpdppkgenaaWHold
import Derived.Test.YtlmlkpdppkgenaaWDf
import Derived.Test.YtlmlkpdppkgenaaPoWalks
namespace Go.Proofs.Ytlmlkpdppkgenaa
open Go.RowKit
open Go.Maps
open Cls Po Dm
open Df (rl rl_length rl_at rl_one size35)

theorem zero72 : ∃ zs : Array Value, (∀ w, (zeroValue 72).run Try.prog w = .ok (.agg zs) w) ∧ zs.size = 256 ∧ ∀ i, i < 256 → zs[i]? = some (.int .i16 0) :=
  ⟨_, (zero_of_info (P := Try.prog) (t := 72) (v := .agg (Array.replicate 256 (.int .i16 0))) (n := 256) (by kernel_rfl)).1, by simp, fun i hi => by simp [hi]⟩
theorem results_cell_mid {P : Program} {fn : Func} {p : Tmp} {ty : TypeId} (h : fn.results = #[.cell p ty]) (tmps : Array Value) (w : World) (g : Nat) (cs : List Value) (d : TypeDesc) (hp : tmps.getD p undef = .pointer (some ⟨g, 0, none⟩)) (hc : w.rangeAt g 0 cs)
    (hu : P.underlying ty = some d) (hd : d.isRow = true) (hi : (P.info? ty).map (·.size) = some cs.length) : (results fn tmps).run P w = .ok (.agg cs.toArray) w := by
  have hp' : tmps[p]?.getD undef = .pointer (some ⟨g, 0, none⟩) := by simpa using hp
  simp [results, h, hp', asAddr, run_loadVar_mid w g 0 ty cs d hc hu hd hi]
theorem setCells_other (g : Nat) : ∀ (vs : List Value) (o : Nat) (w : World), (w.setCells g o vs).heap.size = w.heap.size ∧ (w.setCells g o vs).os = w.os ∧ (w.setCells g o vs).tape = w.tape ∧ (w.setCells g o vs).output = w.output ∧ ∀ k, k ≠ g → (w.setCells g o vs).heap[k]? = w.heap[k]?
  | [], _, _ => ⟨rfl, rfl, rfl, rfl, fun _ _ => rfl⟩
  | v :: vs, o, w => by
    obtain ⟨h1, h2, h3, h4, h5⟩ := setCells_other g vs (o + 1) (w.setCell ⟨g, o, none⟩ v)
    exact ⟨h1.trans (by simp [World.setCell]), h2, h3, h4, fun k hk => (h5 k hk).trans (Below.heap_setCell _ _ _ _ hk)⟩
theorem there_row {w : World} {g t n : Nat} {f : Nat → Value} (h : w.rowIs g t n f) : w.there g 0 n := fun j hj => by
  rw [Nat.zero_add]
  exact ⟨by rw [h.cell hj]; rfl, h.frozen j⟩
variable {B g hb mb sb sc fc : Nat} {fo : Option Addr} {p : P} {S : List Cl} {D E : DataW Unit} {c : Cl} {w W W' : World}
/-- The words of the places that have byte k. -/
theorem Ma.hvs (h : Ma B g hb mb fo fc sb sc p S D W) {k : Nat} (hk : k < 256) : W.cell? ⟨hb, k * 4, none⟩ = some (.int .u64 ((Dm.hv p k).1.toNat : Int)) ∧ W.cell? ⟨hb, k * 4 + 1, none⟩ = some (.int .u64 ((Dm.hv p k).2.1.toNat : Int)) ∧ W.cell? ⟨hb, k * 4 + 2, none⟩ = some (.int .u64 ((Dm.hv p k).2.2.1.toNat : Int)) ∧ W.cell? ⟨hb, k * 4 + 3, none⟩ = some (.int .u64 ((Dm.hv p k).2.2.2.toNat : Int)) := by
  refine ⟨(h.hv.cell (i := k * 4) (by omega)).trans ?_, (h.hv.cell (i := k * 4 + 1) (by omega)).trans ?_, (h.hv.cell (i := k * 4 + 2) (by omega)).trans ?_, (h.hv.cell (i := k * 4 + 3) (by omega)).trans ?_⟩ <;> unfold hvc
  · rw [show k * 4 / 4 = k by omega, show k * 4 % 4 = 0 by omega]; rfl
  · rw [show (k * 4 + 1) / 4 = k by omega, show (k * 4 + 1) % 4 = 1 by omega]; rfl
  · rw [show (k * 4 + 2) / 4 = k by omega, show (k * 4 + 2) % 4 = 2 by omega]; rfl
  · rw [show (k * 4 + 3) / 4 = k by omega, show (k * 4 + 3) % 4 = 3 by omega]; rfl
/-- What row holds ahead of byte k. -/
structure Rr (B g hb mb : Nat) (fo : Option Addr) (fc sb0 : Nat) (p : P) (S : List Cl) (c : Cl) (w : World) (k sb sc : Nat) (D : DataW Unit) (W : World) : Prop where
  ma : Ma B g hb mb fo fc sb sc p (grow (hv p) S c k) D W
  bx : Bx W w.heap.size c
  r1 : W.rowIs (w.heap.size + 1) 72 256 (fun _ => .int .i16 0)
  r2 : W.rowIs (w.heap.size + 2) 72 256 (fun j => .int .i16 (if j < k then num (grow (hv p) S c 256) (meet c (hv p j)) else 0))
  fm : Fm (Xs g mb sb0) w W
  nb : sb = sb0 ∨ w.heap.size + 3 ≤ sb
  sz : w.heap.size + 3 ≤ W.heap.size
  lt : g < w.heap.size ∧ mb < w.heap.size ∧ sb0 < w.heap.size ∧ hb < w.heap.size ∧ ∀ q, (Value.slice fo p.follow.length fc).ownBlock = some q → q < w.heap.size
/-- Behind number, and the store. -/
theorem Rr.step {sb0 k : Nat} (h : Rr B g hb mb fo fc sb0 p S c w k sb sc D W) {W3 W4 : World} {sb' sc' : Nat} {D' : DataW Unit} (hk : k < 256) (hS : 0 < S.length) (hb3 : Below W.heap.size W W3) (hma : Ma B g hb mb fo fc sb' sc' p (add (grow (hv p) S c k) (meet c (hv p k))) D' W4) (hf : Fm (Xs g mb sb) W3 W4) (hn : sb' = sb ∨ W3.heap.size ≤ sb') {z : Int} (hz : z = num (add (grow (hv p) S c k) (meet c (hv p k))) (meet c (hv p k))) :
    W4.rowIs (w.heap.size + 2) 72 256 (fun j => .int .i16 (if j < k then num (grow (hv p) S c 256) (meet c (hv p j)) else 0)) ∧ Rr B g hb mb fo fc sb0 p S c w (k + 1) sb' sc' D' (W4.setCell ⟨w.heap.size + 2, k, none⟩ (.int .i16 z)) := by
  have hsz := h.sz
  have hs3 := hb3.size
  have hs4 := hf.size
  obtain ⟨l1, l2, l3, l4, l5⟩ := h.lt
  have nx : ∀ q, w.heap.size ≤ q → q < w.heap.size + 3 → ¬ Xs g mb sb q := fun q h1 h2 hx => by
    rcases hx with hx | hx | hx
    · omega
    · omega
    · rcases h.nb with e | e <;> omega
  have blk : ∀ q, w.heap.size ≤ q → q < w.heap.size + 3 → W4.heap[q]? = W.heap[q]? := fun q h1 h2 => (hf.blk q (by omega) (nx q h1 h2)).trans (hb3.block q (by omega))
  have r2 : W4.rowIs (w.heap.size + 2) 72 256 (fun j => .int .i16 (if j < k then num (grow (hv p) S c 256) (meet c (hv p j)) else 0)) := h.r2.of_block (blk _ (by omega) (by omega))
  have hnum : z = num (grow (hv p) S c 256) (meet c (hv p k)) := by
    have h1 : 0 < (grow (hv p) S c (k + 1)).length := Nat.lt_of_lt_of_le hS (grow_pre _ _ _ _).length_le
    have h2 := num_pre (grow_mono (hv p) S c (k + 1) (256 - (k + 1))) h1 (grow_mem (hv p) hS c (Nat.lt_succ_self k))
    rw [show k + 1 + (256 - (k + 1)) = 256 by omega] at h2
    rw [hz]; exact h2.symm
  have nb' : sb' = sb0 ∨ w.heap.size + 3 ≤ sb' := by
    rcases hn with e | e
    · rw [e]; exact h.nb
    · right; omega
  have e2 : w.heap.size + 2 ≠ sb' := by rcases nb' with e | e <;> omega
  refine ⟨r2, ⟨hma.other ⟨?_, ?_, ?_, ?_, ?_⟩, ?_, ?_, ?_, ?_, nb', ?_, ⟨l1, l2, l3, l4, l5⟩⟩⟩
  · show w.heap.size + 2 ≠ g; omega
  · show w.heap.size + 2 ≠ hb; omega
  · show w.heap.size + 2 ≠ mb; omega
  · exact e2
  · intro hq; have := l5 _ hq; simp at this; omega
  · have e := blk w.heap.size (by omega) (by omega)
    have h4 : Bx W4 w.heap.size c := ⟨(cell_as e 0).trans h.bx.1, (cell_as e 1).trans h.bx.2.1, (cell_as e 2).trans h.bx.2.2.1, (cell_as e 3).trans h.bx.2.2.2⟩
    exact h4.otherB (by simp)
  · exact (h.r1.of_block (blk _ (by omega) (by omega))).setOther (by simp) _
  · refine (r2.set k _).congr fun j _ => ?_
    by_cases e : j = k
    · subst e; simp [hnum]
    · by_cases e2 : j < k
      · simp [e, e2, show j < k + 1 by omega]
      · simp [e, e2, show ¬ j < k + 1 by omega]
  · refine ⟨?_, ?_, ?_, ?_, fun q hq hx => ?_⟩
    · exact hf.os.trans (hb3.os.trans h.fm.os)
    · exact hf.tape.trans (hb3.tape.trans h.fm.tape)
    · exact hf.output.trans (hb3.output.trans h.fm.output)
    · have := h.fm.size; simp [World.setCell]; omega
    · have := h.fm.size
      rw [Below.heap_setCell _ _ _ _ (by simp; omega), hf.blk q (by omega) (fun hx2 => hx (by
        rcases hx2 with e | e | e
        · exact Or.inl e
        · exact Or.inr (Or.inl e)
        · rcases h.nb with e3 | e3
          · exact Or.inr (Or.inr (e.trans e3))
          · omega)), hb3.block q (by omega)]
      exact h.fm.blk q hq hx
  · simp [World.setCell]; omega
/-- What row leaves. -/
def RowP (B g hb mb : Nat) (fo : Option Addr) (fc sb : Nat) (p : P) (S : List Cl) (c : Cl) (w w' : World) : Prop :=
  ∃ sb' sc' D', Ma B g hb mb fo fc sb' sc' p (grow (hv p) S c 256) D' w' ∧ Fm (Xs g mb sb) w w' ∧ (sb' = sb ∨ w.heap.size ≤ sb')
theorem Rr.fin {sb0 : Nat} (h : Rr B g hb mb fo fc sb0 p S c w 256 sb sc D W) (vs : List Value) : RowP B g hb mb fo fc sb0 p S c w (W.setCells (w.heap.size + 1) 0 vs) := by
  obtain ⟨l1, l2, l3, l4, l5⟩ := h.lt
  obtain ⟨q1, q2, q3, q4, q5⟩ := setCells_other (w.heap.size + 1) vs 0 W
  have hsz := h.sz
  refine ⟨sb, sc, D, h.ma.keep (by rw [q1]; exact Nat.le_refl _) (fun k hk hx => q5 k ?_), ⟨q2.trans h.fm.os, q3.trans h.fm.tape, q4.trans h.fm.output, by rw [q1]; exact h.fm.size, fun k hk hx => (q5 k (by omega)).trans (h.fm.blk k hk hx)⟩, h.nb.imp id (fun e => by omega)⟩
  rcases hx with e | e | e | e | e
  · omega
  · omega
  · omega
  · rcases h.nb with e3 | e3 <;> omega
  · have := l5 k e; omega

set_option maxHeartbeats 4000000 in
set_option maxRecDepth 20000 in
theorem row_any (B g hb mb : Nat) (fo : Option Addr) (fc sb sc : Nat) (p : P) (S : List Cl) (D : DataW Unit) (c : Cl) (w : World) (h : Ma B g hb mb fo fc sb sc p S D w) (hS : 0 < S.length) (hS2 : S.length ≤ 700) :
    Calls Try.prog 26 #[(.pointer (some ⟨g, 0, none⟩)), .agg #[.int .u64 (c.1.toNat : Int), .int .u64 (c.2.1.toNat : Int), .int .u64 (c.2.2.1.toNat : Int), .int .u64 (c.2.2.2.toNat : Int)]] w fun e w' => e = .returned (.agg (rl fun b => num (grow (hv p) S c 256) (meet c (hv p b))).toArray) ∧ RowP B g hb mb fo fc sb p S c w w' := by
  obtain ⟨zs, hz72, hzs, hzc⟩ := zero72
  have HZ : Hid (zs.size = 256 ∧ ∀ i, i < 256 → zs[i]? = some (.int .i16 0)) := ⟨hzs, hzc⟩
  have HPOS : Hid (0 < S.length) := hS
  have HS7 : Hid (S.length ≤ 700) := hS2
  obtain ⟨w0, HW0⟩ : ∃ q, Hid (((w.alloc (.cells #[.int .u64 (c.1.toNat : Int), .int .u64 (c.2.1.toNat : Int), .int .u64 (c.2.2.1.toNat : Int), .int .u64 (c.2.2.2.toNat : Int)] 74)).alloc (Obj.cells zs 72)).alloc (Obj.cells zs 72) = q) := ⟨_, (rfl : _ = _)⟩
  have HR0 : Hid (Rr B g hb mb fo fc sb p S c w 0 sb sc D w0) := by
    have h1 := World.rowIs_alloc (w.alloc (.cells #[.int .u64 (c.1.toNat : Int), .int .u64 (c.2.1.toNat : Int), .int .u64 (c.2.2.1.toNat : Int), .int .u64 (c.2.2.2.toNat : Int)] 74)) zs 72 (fun _ => .int .i16 0) (fun i hi => HZ.out.2 i (by rw [← HZ.out.1]; exact hi))
    have h2 := World.rowIs_alloc ((w.alloc (.cells #[.int .u64 (c.1.toNat : Int), .int .u64 (c.2.1.toNat : Int), .int .u64 (c.2.2.1.toNat : Int), .int .u64 (c.2.2.2.toNat : Int)] 74)).alloc (Obj.cells zs 72)) zs 72 (fun _ => .int .i16 0) (fun i hi => HZ.out.2 i (by rw [← HZ.out.1]; exact hi))
    rw [HZ.out.1] at h1 h2
    rw [show (w.alloc (.cells #[.int .u64 (c.1.toNat : Int), .int .u64 (c.2.1.toNat : Int), .int .u64 (c.2.2.1.toNat : Int), .int .u64 (c.2.2.2.toNat : Int)] 74)).heap.size = w.heap.size + 1 by simp] at h1
    rw [show ((w.alloc (.cells #[.int .u64 (c.1.toNat : Int), .int .u64 (c.2.1.toNat : Int), .int .u64 (c.2.2.1.toNat : Int), .int .u64 (c.2.2.2.toNat : Int)] 74)).alloc (Obj.cells zs 72)).heap.size = w.heap.size + 2 by simp] at h2
    rw [← HW0.out]
    have hbl : Below w.heap.size w (((w.alloc (.cells #[.int .u64 (c.1.toNat : Int), .int .u64 (c.2.1.toNat : Int), .int .u64 (c.2.2.1.toNat : Int), .int .u64 (c.2.2.2.toNat : Int)] 74)).alloc (Obj.cells zs 72)).alloc (Obj.cells zs 72)) := (((Below.refl _ _).alloc (Nat.le_refl _) _).alloc (by simp) _).alloc (by simp; omega) _
    obtain ⟨l1, l2, l3, l4⟩ := h.lt
    exact ⟨h.next hbl, ((bx_new74 w c).alloc _).alloc _, h1.alloc _, h2.congr fun i _ => by simp, Fm.below hbl, Or.inl rfl, by simp, ⟨l1, l4, l3, l2, fun q hq => (h.fw.lt q hq).2⟩⟩
  have y2 := HR0.out.ma.bx.cell (i := 0) (by omega)
  simp only [mv] at y2
  obtain ⟨F, HFF⟩ : ∃ F, Hid ((fun b => num (grow (hv p) S c 256) (meet c (hv p b))) = F) := ⟨_, (rfl : _ = _)⟩
  rw [HFF.out]
  clear hzs hzc h hS hS2
  go_enter Try.func26, Try.ntmps26
  go_upto_region 2 with fail
  rw [HW0.out]
  clear HW0
  go_wp2_with fail
  clear y2
  go_loopw [13] (fun i wr => ∃ k : Nat, k ≤ 256 ∧ i = .int .i64 (k : Int) ∧ Hid (∃ sb' sc' D', Rr B g hb mb fo fc sb p S c w k sb' sc' D' wr)) (fun i _ => 256 - (intOf i).toNat)
  case atStart => exact ⟨0, by omega, rfl, sb, sc, D, HR0.out⟩
  case round =>
    clear HR0
    obtain ⟨k, hk, rfl, HA⟩ := hrel
    obtain ⟨sb1, sc1, D1, hrr⟩ := HA.out
    have HRR : Hid (Rr B g hb mb fo fc sb p S c w k sb1 sc1 D1 wr) := hrr
    clear hrr HA
    by_cases hlt : k < 256
    · have hk0 : (0 : Int) ≤ (k : Int) := by omega
      have hk1 : (k : Int) < 256 := by omega
      have HLT : Hid (k < 256) := hlt
      obtain ⟨y0, y1, y2, y3⟩ := HRR.out.ma.hvs hlt
      obtain ⟨q, HQ⟩ : ∃ q, Hid (hv p k = q) := ⟨_, (rfl : _ = _)⟩
      rw [HQ.out] at y0 y1 y2 y3
      have ya := HRR.out.bx.1
      have yb := HRR.out.bx.2.1
      have yc := HRR.out.bx.2.2.1
      have yd := HRR.out.bx.2.2.2
      have hbw : w.heap.size < wr.heap.size := HRR.out.bx.lt
      have hme := smeet_any c q (wr.alloc (.cells #[.int .u64 (q.1.toNat : Int), .int .u64 (q.2.1.toNat : Int), .int .u64 (q.2.2.1.toNat : Int), .int .u64 (q.2.2.2.toNat : Int)] 74))
      go_wp2_with fail
      clear y0 y1 y2 y3 ya yb yc yd
      refine hme.mono ?_
      rintro _ w3 ⟨rfl, hb3⟩
      have HB3 : Hid (Below wr.heap.size wr w3) := ((Below.refl wr.heap.size wr).alloc (Nat.le_refl _) _).trans (hb3.mono (by simp))
      have hnu := number_any B g hb mb fo fc sb1 sc1 p (grow (hv p) S c k) D1 (meet c q) w3 (HRR.out.ma.next HB3.out) (Nat.lt_of_lt_of_le HPOS.out (grow_pre _ _ _ _).length_le) (by have := grow_length (hv p) S c k; have := HS7.out; omega)
      obtain ⟨z, HZZ⟩ : ∃ z, Hid (z = num (add (grow (hv p) S c k) (meet c q)) (meet c q)) := ⟨_, (rfl : _ = _)⟩
      rw [← HZZ.out] at hnu
      clear hme hb3
      go_wp2_with fail
      refine hnu.mono ?_
      rintro _ w4 ⟨rfl, hp4⟩
      obtain ⟨sb2, sc2, D2, g1, g2, g3⟩ := hp4
      have HST := HRR.out.step (W3 := w3) (W4 := w4) hlt HPOS.out HB3.out (by rw [HQ.out]; exact g1) g2 g3 (z := z) (by rw [HQ.out]; exact HZZ.out)
      have HNX : Hid (Rr B g hb mb fo fc sb p S c w (k + 1) sb2 sc2 D2 (w4.setCell ⟨w.heap.size + 2, k, none⟩ (.int .i16 z))) := HST.2
      have y5 := HST.1.cell (i := k) hlt
      have y6 := HST.1.frozen k
      clear HST g1 g2 g3 hnu
      go_wp2_with fail
      go_roundw
      case rel => exact ⟨k + 1, by omega, by go_num, sb2, sc2, D2, HNX.out⟩
      case measure => simp [intOf]; omega
    · obtain rfl : k = 256 := by omega
      have HR : Hid (wr.rangeAt (w.heap.size + 2) 0 (rl F)) := fun j v hv => by
        have hj : j < 256 := by have := (List.getElem?_eq_some_iff.1 hv).1; rwa [rl_length] at this
        rw [rl_at _ j hj] at hv
        rw [Nat.zero_add, HRR.out.r2.cell hj, if_pos hj, ← hv, ← HFF.out]
      have HO : Hid ((rl F).toArray.all (·.oneCell') = true ∧ (rl F).length = 256) := ⟨rl_one _, rl_length _⟩
      obtain ⟨l, HLL⟩ : ∃ q, Hid (rl F = q) := ⟨_, (rfl : _ = _)⟩
      rw [HLL.out] at HR HO
      have HSZ : Hid (l.toArray.size = 256) := by show _ = _; simp [HO.out.2]
      have HTH : Hid (wr.there (w.heap.size + 1) 0 l.toArray.size) := by rw [HSZ.out]; exact there_row HRR.out.r1
      go_wp2_with (first | refine wpList_load_mid rfl 72 _ rfl (w.heap.size + 2) 0 rfl l _ HR.out Try.underlying72 rfl (by rw [HO.out.2]; exact size35) ?_ | refine wpList_store_mid rfl 72 _ _ rfl (w.heap.size + 1) 0 l.toArray rfl rfl HTH.out (by rw [HSZ.out]; exact size35) HO.out.1 ?_)
      exact bodyPost_ret (v := .agg l.toArray) (results_cell_mid Try.results26 _ _ (w.heap.size + 1) l _ rfl (World.rangeAt_setCells_same _ _ _ _ (by rw [HO.out.2]; exact there_row HRR.out.r1)) Try.underlying72 rfl (by rw [HO.out.2]; exact size35)) rfl ⟨by rw [HLL.out], HRR.out.fin _⟩
end Go.Proofs.Ytlmlkpdppkgenaa

namespace Go.Proofs.Ytlmlkpdppkgenaa
open Go.RowKit
open Go.Maps
open Cls Po Dm

theorem sst4 {W : World} {b : Nat} {d : Cl} (h : W.heap[b]? = some (.cells #[.int .u64 (d.1.toNat : Int), .int .u64 (d.2.1.toNat : Int), .int .u64 (d.2.2.1.toNat : Int), .int .u64 (d.2.2.2.toNat : Int)] 74)) (e : Cl) : ((((W.setCell ⟨b, 0, none⟩ (.int .u64 (e.1.toNat : Int))).setCell ⟨b, 1, none⟩ (.int .u64 (e.2.1.toNat : Int))).setCell ⟨b, 2, none⟩ (.int .u64 (e.2.2.1.toNat : Int))).setCell ⟨b, 3, none⟩ (.int .u64 (e.2.2.2.toNat : Int))).heap[b]? = some (.cells #[.int .u64 (e.1.toNat : Int), .int .u64 (e.2.1.toNat : Int), .int .u64 (e.2.2.1.toNat : Int), .int .u64 (e.2.2.2.toNat : Int)] 74) := by
  simp [World.setCell, Array.getElem?_modify, h]
theorem sot4 {W : World} {b k : Nat} (h : k ≠ b) (v0 v1 v2 v3 : Value) : ((((W.setCell ⟨b, 0, none⟩ v0).setCell ⟨b, 1, none⟩ v1).setCell ⟨b, 2, none⟩ v2).setCell ⟨b, 3, none⟩ v3).heap[k]? = W.heap[k]? := by
  rw [Below.heap_setCell _ _ _ _ h, Below.heap_setCell _ _ _ _ h, Below.heap_setCell _ _ _ _ h, Below.heap_setCell _ _ _ _ h]
theorem sbe4 {B : Nat} {w W : World} (h : Below B w W) {b : Nat} (hb : B ≤ b) (v0 v1 v2 v3 : Value) : Below B w ((((W.setCell ⟨b, 0, none⟩ v0).setCell ⟨b, 1, none⟩ v1).setCell ⟨b, 2, none⟩ v2).setCell ⟨b, 3, none⟩ v3) :=
  (((h.setCell hb _).setCell hb _).setCell hb _).setCell hb _
variable {B g hb mb sb sc fc : Nat} {fo : Option Addr} {p : P} {S : List Cl} {D E : DataW Unit} {c : Cl} {w W W' : World}
/-- The words of what follows place k. -/
theorem Ma.fws (h : Ma B g hb mb fo fc sb sc p S D W) {k : Nat} (hk : k < p.follow.length) : ∃ b, fo = some ⟨b, 0, none⟩ ∧ b < W.heap.size ∧ W.cell? ⟨b, k * 4, none⟩ = some (.int .u64 (((flS p).getD k empty).1.toNat : Int)) ∧ W.cell? ⟨b, k * 4 + 1, none⟩ = some (.int .u64 (((flS p).getD k empty).2.1.toNat : Int)) ∧ W.cell? ⟨b, k * 4 + 2, none⟩ = some (.int .u64 (((flS p).getD k empty).2.2.1.toNat : Int)) ∧ W.cell? ⟨b, k * 4 + 3, none⟩ = some (.int .u64 (((flS p).getD k empty).2.2.2.toNat : Int)) := by
  have hf := h.fw
  have hl : p.follow.length = (flS p).length := by simp [flS]
  have hf2 := hf
  obtain ⟨-, ⟨h1, h2⟩ | ⟨b, cap', cur, hv, -⟩⟩ := hf
  · omega
  · simp only [Value.slice.injEq] at hv
    obtain ⟨rfl, -, rfl⟩ := hv
    exact ⟨b, rfl, (hf2.lt b rfl).2, own_set4 hf2 hl k (by omega) 0 (by omega), own_set4 hf2 hl k (by omega) 1 (by omega), own_set4 hf2 hl k (by omega) 2 (by omega), own_set4 hf2 hl k (by omega) 3 (by omega)⟩

set_option maxHeartbeats 4000000 in
set_option maxRecDepth 20000 in
theorem mbehind_any (B g hb mb : Nat) (fo : Option Addr) (fc sb sc : Nat) (p : P) (S : List Cl) (D : DataW Unit) (c : Cl) (w : World) (h : Ma B g hb mb fo fc sb sc p S D w) (hn : p.follow.length ≤ 200) :
    Calls Try.prog 29 #[(.pointer (some ⟨g, 0, none⟩)), .agg #[.int .u64 (c.1.toNat : Int), .int .u64 (c.2.1.toNat : Int), .int .u64 (c.2.2.1.toNat : Int), .int .u64 (c.2.2.2.toNat : Int)]] w fun e w' => e = .returned (.agg #[.int .u64 ((bh p c).1.toNat : Int), .int .u64 ((bh p c).2.1.toNat : Int), .int .u64 ((bh p c).2.2.1.toNat : Int), .int .u64 ((bh p c).2.2.2.toNat : Int)]) ∧ Below w.heap.size w w' := by
  have HMA : Hid (Ma B g hb mb fo fc sb sc p S D w) := h
  obtain ⟨w0, HW0⟩ : ∃ q, Hid (((w.alloc (.cells #[.int .u64 (c.1.toNat : Int), .int .u64 (c.2.1.toNat : Int), .int .u64 (c.2.2.1.toNat : Int), .int .u64 (c.2.2.2.toNat : Int)] 74)).alloc (.cells #[.int .u64 (empty.1.toNat : Int), .int .u64 (empty.2.1.toNat : Int), .int .u64 (empty.2.2.1.toNat : Int), .int .u64 (empty.2.2.2.toNat : Int)] 74)).alloc (.cells #[.int .u64 (empty.1.toNat : Int), .int .u64 (empty.2.1.toNat : Int), .int .u64 (empty.2.2.1.toNat : Int), .int .u64 (empty.2.2.2.toNat : Int)] 74) = q) := ⟨_, (rfl : _ = _)⟩
  have HR0 : Hid (Bx w0 w.heap.size c ∧ w0.heap[w.heap.size + 1]? = some (.cells #[.int .u64 (empty.1.toNat : Int), .int .u64 (empty.2.1.toNat : Int), .int .u64 (empty.2.2.1.toNat : Int), .int .u64 (empty.2.2.2.toNat : Int)] 74) ∧ w0.heap[w.heap.size + 2]? = some (.cells #[.int .u64 ((bhTo (flS p) c 0).1.toNat : Int), .int .u64 ((bhTo (flS p) c 0).2.1.toNat : Int), .int .u64 ((bhTo (flS p) c 0).2.2.1.toNat : Int), .int .u64 ((bhTo (flS p) c 0).2.2.2.toNat : Int)] 74) ∧ Below w.heap.size w w0 ∧ w.heap.size + 3 ≤ w0.heap.size) := by
    rw [← HW0.out]
    have h2 := snew ((w.alloc (.cells #[.int .u64 (c.1.toNat : Int), .int .u64 (c.2.1.toNat : Int), .int .u64 (c.2.2.1.toNat : Int), .int .u64 (c.2.2.2.toNat : Int)] 74)).alloc (.cells #[.int .u64 (empty.1.toNat : Int), .int .u64 (empty.2.1.toNat : Int), .int .u64 (empty.2.2.1.toNat : Int), .int .u64 (empty.2.2.2.toNat : Int)] 74)) (.cells #[.int .u64 (empty.1.toNat : Int), .int .u64 (empty.2.1.toNat : Int), .int .u64 (empty.2.2.1.toNat : Int), .int .u64 (empty.2.2.2.toNat : Int)] 74)
    rw [show ((w.alloc (.cells #[.int .u64 (c.1.toNat : Int), .int .u64 (c.2.1.toNat : Int), .int .u64 (c.2.2.1.toNat : Int), .int .u64 (c.2.2.2.toNat : Int)] 74)).alloc (.cells #[.int .u64 (empty.1.toNat : Int), .int .u64 (empty.2.1.toNat : Int), .int .u64 (empty.2.2.1.toNat : Int), .int .u64 (empty.2.2.2.toNat : Int)] 74)).heap.size = w.heap.size + 2 by simp] at h2
    refine ⟨((bx_new74 w c).alloc _).alloc _, ?_, h2, (((Below.refl _ _).alloc (Nat.le_refl _) _).alloc (by simp) _).alloc (by simp; omega) _, by simp⟩
    rw [Below.heap_alloc _ _ _ (by simp)]; exact snew1 _ _ _
  have y2 := (HMA.out.next HR0.out.2.2.2.1).bx.cell (i := 1) (by omega)
  simp only [mv] at y2
  obtain ⟨qq, HQQ⟩ : ∃ q, Hid (bh p c = q) := ⟨_, (rfl : _ = _)⟩
  rw [HQQ.out]
  have HLF : Hid (p.follow.length ≤ 200) := hn
  clear h
  go_enter Try.func29, Try.ntmps29
  go_upto_region 2 with fail
  rw [show Obj.cells #[.int .u64 0, .int .u64 0, .int .u64 0, .int .u64 0] 74 = (.cells #[.int .u64 (empty.1.toNat : Int), .int .u64 (empty.2.1.toNat : Int), .int .u64 (empty.2.2.1.toNat : Int), .int .u64 (empty.2.2.2.toNat : Int)] 74) from rfl, HW0.out]
  clear HW0
  go_wp2_with fail
  clear y2
  go_loopw [13] (fun i wr => ∃ k : Nat, k ≤ p.follow.length ∧ i = .int .i64 (k : Int) ∧ Hid (Bx wr w.heap.size c ∧ wr.heap[w.heap.size + 1]? = some (.cells #[.int .u64 (empty.1.toNat : Int), .int .u64 (empty.2.1.toNat : Int), .int .u64 (empty.2.2.1.toNat : Int), .int .u64 (empty.2.2.2.toNat : Int)] 74) ∧ wr.heap[w.heap.size + 2]? = some (.cells #[.int .u64 ((bhTo (flS p) c k).1.toNat : Int), .int .u64 ((bhTo (flS p) c k).2.1.toNat : Int), .int .u64 ((bhTo (flS p) c k).2.2.1.toNat : Int), .int .u64 ((bhTo (flS p) c k).2.2.2.toNat : Int)] 74) ∧ Below w.heap.size w wr ∧ w.heap.size + 3 ≤ wr.heap.size)) (fun i _ => p.follow.length - (intOf i).toNat)
  case atStart => exact ⟨0, by omega, rfl, HR0⟩
  case round =>
    clear HR0
    obtain ⟨k, hk, rfl, HA⟩ := hrel
    by_cases hlt : k < p.follow.length
    · have hk0 : (0 : Int) ≤ (k : Int) := by omega
      have hk1 : (k : Int) < (p.follow.length : Int) := by omega
      obtain ⟨b, rfl, hbl, y0, y1, y2, y3⟩ := (HMA.out.next HA.out.2.2.2.1).fws hlt
      obtain ⟨q, HQ⟩ : ∃ q, Hid ((flS p).getD k empty = q) := ⟨_, (rfl : _ = _)⟩
      rw [HQ.out] at y0 y1 y2 y3
      obtain ⟨r, HRR⟩ : ∃ r, Hid (bhTo (flS p) c k = r) := ⟨_, (rfl : _ = _)⟩
      have ya := HA.out.1.1
      have yb := HA.out.1.2.1
      have yc := HA.out.1.2.2.1
      have yd := HA.out.1.2.2.2
      have hbw : w.heap.size < wr.heap.size := HA.out.1.lt
      have hha := shas_any c (k : Int) k rfl (by have := HLF.out; omega) (wr.alloc (.cells #[.int .u64 (q.1.toNat : Int), .int .u64 (q.2.1.toNat : Int), .int .u64 (q.2.2.1.toNat : Int), .int .u64 (q.2.2.2.toNat : Int)] 74))
      obtain ⟨w2, HW2⟩ : ∃ z, Hid (wr.alloc (.cells #[.int .u64 (q.1.toNat : Int), .int .u64 (q.2.1.toNat : Int), .int .u64 (q.2.2.1.toNat : Int), .int .u64 (q.2.2.2.toNat : Int)] 74) = z) := ⟨_, (rfl : _ = _)⟩
      have HA2 : Hid (Bx w2 w.heap.size c ∧ w2.heap[w.heap.size + 1]? = some (.cells #[.int .u64 (empty.1.toNat : Int), .int .u64 (empty.2.1.toNat : Int), .int .u64 (empty.2.2.1.toNat : Int), .int .u64 (empty.2.2.2.toNat : Int)] 74) ∧ w2.heap[w.heap.size + 2]? = some (.cells #[.int .u64 (r.1.toNat : Int), .int .u64 (r.2.1.toNat : Int), .int .u64 (r.2.2.1.toNat : Int), .int .u64 (r.2.2.2.toNat : Int)] 74) ∧ Below w.heap.size w w2 ∧ w.heap.size + 3 ≤ w2.heap.size ∧ Bx w2 wr.heap.size q) := by
        have hb2 := (Below.refl wr.heap.size wr).alloc (Nat.le_refl _) (.cells #[.int .u64 (q.1.toNat : Int), .int .u64 (q.2.1.toNat : Int), .int .u64 (q.2.2.1.toNat : Int), .int .u64 (q.2.2.2.toNat : Int)] 74)
        have hs := HA.out.2.2.2.2
        rw [← HW2.out, ← HRR.out]
        exact ⟨HA.out.1.next hb2, (hb2.block _ (by omega)).trans HA.out.2.1, (hb2.block _ (by omega)).trans HA.out.2.2.1, HA.out.2.2.2.1.trans (hb2.mono HA.out.2.2.2.1.size), Nat.le_trans hs hb2.size, bx_new74 wr q⟩
      rw [HW2.out] at hha
      cases hm : mem c k with
      | true =>
        rw [hm] at hha
        have HE : Hid (bhTo (flS p) c (k + 1) = join r q) := by show (if mem c k = true then _ else _) = _; rw [if_pos hm, HRR.out, HQ.out]
        clear hm
        go_wp2_with fail
        rw [HW2.out]
        clear y0 y1 y2 y3 ya yb yc yd HW2
        refine hha.mono ?_
        rintro _ w3 ⟨rfl, hb3⟩
        have hs2 := HA2.out.2.2.2.2.1
        have hq2 := HA2.out.2.2.2.2.2.lt
        have HA3 : Hid (Bx w3 w.heap.size c ∧ w3.heap[w.heap.size + 1]? = some (.cells #[.int .u64 (empty.1.toNat : Int), .int .u64 (empty.2.1.toNat : Int), .int .u64 (empty.2.2.1.toNat : Int), .int .u64 (empty.2.2.2.toNat : Int)] 74) ∧ w3.heap[w.heap.size + 2]? = some (.cells #[.int .u64 (r.1.toNat : Int), .int .u64 (r.2.1.toNat : Int), .int .u64 (r.2.2.1.toNat : Int), .int .u64 (r.2.2.2.toNat : Int)] 74) ∧ Below w.heap.size w w3 ∧ w.heap.size + 3 ≤ w3.heap.size ∧ Bx w3 wr.heap.size q) := ⟨HA2.out.1.next hb3, (hb3.block _ (by omega)).trans HA2.out.2.1, (hb3.block _ (by omega)).trans HA2.out.2.2.1, HA2.out.2.2.2.1.trans (hb3.mono HA2.out.2.2.2.1.size), Nat.le_trans hs2 hb3.size, HA2.out.2.2.2.2.2.next hb3⟩
        obtain ⟨⟨ya, yb, yc, yd⟩, -⟩ := sblock4 HA3.out.2.2.1
        obtain ⟨y0, y1, y2, y3⟩ := HA3.out.2.2.2.2.2
        have hjo := sjoin_any r q w3
        clear hha hb3
        go_wp2_with fail
        clear ya yb yc yd y0 y1 y2 y3
        refine hjo.mono ?_
        rintro _ w4 ⟨rfl, hb4⟩
        have hs3 := HA3.out.2.2.2.2.1
        have b2 : w4.heap[w.heap.size + 2]? = some (.cells #[.int .u64 (r.1.toNat : Int), .int .u64 (r.2.1.toNat : Int), .int .u64 (r.2.2.1.toNat : Int), .int .u64 (r.2.2.2.toNat : Int)] 74) := (hb4.block _ (by omega)).trans HA3.out.2.2.1
        obtain ⟨⟨ya, yb, yc, yd⟩, za, zb, zc, zd⟩ := sblock4 b2
        have HNX : Hid (Bx ((((w4.setCell ⟨w.heap.size + 2, 0, none⟩ (.int .u64 ((join r q).1.toNat : Int))).setCell ⟨w.heap.size + 2, 1, none⟩ (.int .u64 ((join r q).2.1.toNat : Int))).setCell ⟨w.heap.size + 2, 2, none⟩ (.int .u64 ((join r q).2.2.1.toNat : Int))).setCell ⟨w.heap.size + 2, 3, none⟩ (.int .u64 ((join r q).2.2.2.toNat : Int))) w.heap.size c ∧ ((((w4.setCell ⟨w.heap.size + 2, 0, none⟩ (.int .u64 ((join r q).1.toNat : Int))).setCell ⟨w.heap.size + 2, 1, none⟩ (.int .u64 ((join r q).2.1.toNat : Int))).setCell ⟨w.heap.size + 2, 2, none⟩ (.int .u64 ((join r q).2.2.1.toNat : Int))).setCell ⟨w.heap.size + 2, 3, none⟩ (.int .u64 ((join r q).2.2.2.toNat : Int))).heap[w.heap.size + 1]? = some (.cells #[.int .u64 (empty.1.toNat : Int), .int .u64 (empty.2.1.toNat : Int), .int .u64 (empty.2.2.1.toNat : Int), .int .u64 (empty.2.2.2.toNat : Int)] 74) ∧ ((((w4.setCell ⟨w.heap.size + 2, 0, none⟩ (.int .u64 ((join r q).1.toNat : Int))).setCell ⟨w.heap.size + 2, 1, none⟩ (.int .u64 ((join r q).2.1.toNat : Int))).setCell ⟨w.heap.size + 2, 2, none⟩ (.int .u64 ((join r q).2.2.1.toNat : Int))).setCell ⟨w.heap.size + 2, 3, none⟩ (.int .u64 ((join r q).2.2.2.toNat : Int))).heap[w.heap.size + 2]? = some (.cells #[.int .u64 ((bhTo (flS p) c (k + 1)).1.toNat : Int), .int .u64 ((bhTo (flS p) c (k + 1)).2.1.toNat : Int), .int .u64 ((bhTo (flS p) c (k + 1)).2.2.1.toNat : Int), .int .u64 ((bhTo (flS p) c (k + 1)).2.2.2.toNat : Int)] 74) ∧ Below w.heap.size w ((((w4.setCell ⟨w.heap.size + 2, 0, none⟩ (.int .u64 ((join r q).1.toNat : Int))).setCell ⟨w.heap.size + 2, 1, none⟩ (.int .u64 ((join r q).2.1.toNat : Int))).setCell ⟨w.heap.size + 2, 2, none⟩ (.int .u64 ((join r q).2.2.1.toNat : Int))).setCell ⟨w.heap.size + 2, 3, none⟩ (.int .u64 ((join r q).2.2.2.toNat : Int))) ∧ w.heap.size + 3 ≤ ((((w4.setCell ⟨w.heap.size + 2, 0, none⟩ (.int .u64 ((join r q).1.toNat : Int))).setCell ⟨w.heap.size + 2, 1, none⟩ (.int .u64 ((join r q).2.1.toNat : Int))).setCell ⟨w.heap.size + 2, 2, none⟩ (.int .u64 ((join r q).2.2.1.toNat : Int))).setCell ⟨w.heap.size + 2, 3, none⟩ (.int .u64 ((join r q).2.2.2.toNat : Int))).heap.size) := by
          have e0 := sot4 (W := w4) (b := w.heap.size + 2) (k := w.heap.size) (by omega) (.int .u64 ((join r q).1.toNat : Int)) (.int .u64 ((join r q).2.1.toNat : Int)) (.int .u64 ((join r q).2.2.1.toNat : Int)) (.int .u64 ((join r q).2.2.2.toNat : Int))
          have h4 := HA3.out.1.next hb4
          refine ⟨⟨(cell_as e0 0).trans h4.1, (cell_as e0 1).trans h4.2.1, (cell_as e0 2).trans h4.2.2.1, (cell_as e0 3).trans h4.2.2.2⟩, (sot4 (by omega) _ _ _ _).trans ((hb4.block _ (by omega)).trans HA3.out.2.1), ?_, sbe4 (HA3.out.2.2.2.1.trans (hb4.mono HA3.out.2.2.2.1.size)) (by omega) _ _ _ _, ?_⟩
          · rw [HE.out]; exact sst4 b2 _
          · have := hb4.size; simp [World.setCell]; omega
        clear hjo hb4 b2
        go_wp2_with fail
        go_roundw
        case rel => exact ⟨k + 1, by omega, by go_num, HNX⟩
        case measure => simp [intOf]; omega
      | false =>
        rw [hm] at hha
        have HE : Hid (bhTo (flS p) c (k + 1) = r) := by show (if mem c k = true then _ else _) = _; rw [if_neg (by simp [hm]), HRR.out]
        clear hm
        go_wp2_with fail
        rw [HW2.out]
        clear y0 y1 y2 y3 ya yb yc yd HW2
        refine hha.mono ?_
        rintro _ w3 ⟨rfl, hb3⟩
        have hs2 := HA2.out.2.2.2.2.1
        have HA3 : Hid (Bx w3 w.heap.size c ∧ w3.heap[w.heap.size + 1]? = some (.cells #[.int .u64 (empty.1.toNat : Int), .int .u64 (empty.2.1.toNat : Int), .int .u64 (empty.2.2.1.toNat : Int), .int .u64 (empty.2.2.2.toNat : Int)] 74) ∧ w3.heap[w.heap.size + 2]? = some (.cells #[.int .u64 ((bhTo (flS p) c (k + 1)).1.toNat : Int), .int .u64 ((bhTo (flS p) c (k + 1)).2.1.toNat : Int), .int .u64 ((bhTo (flS p) c (k + 1)).2.2.1.toNat : Int), .int .u64 ((bhTo (flS p) c (k + 1)).2.2.2.toNat : Int)] 74) ∧ Below w.heap.size w w3 ∧ w.heap.size + 3 ≤ w3.heap.size) := ⟨HA2.out.1.next hb3, (hb3.block _ (by omega)).trans HA2.out.2.1, by rw [HE.out]; exact (hb3.block _ (by omega)).trans HA2.out.2.2.1, HA2.out.2.2.2.1.trans (hb3.mono HA2.out.2.2.2.1.size), Nat.le_trans hs2 hb3.size⟩
        clear hha hb3
        go_wp2_with fail
        go_roundw
        case rel => exact ⟨k + 1, by omega, by go_num, HA3⟩
        case measure => simp [intOf]; omega
    · obtain rfl : k = p.follow.length := by omega
      obtain ⟨h1, h2, h3, h4, h5⟩ := HA.out
      rw [show bhTo (flS p) c p.follow.length = qq from HQQ.out] at h3
      obtain ⟨⟨z0, z1, z2, z3⟩, y0, y1, y2, y3⟩ := sblock4 h2
      obtain ⟨⟨x0, x1, x2, x3⟩, _⟩ := sblock4 h3
      clear h1 h2 h3 HA
      go_wp2_with fail
      refine bodyPost_ret (v := .agg #[.int .u64 (qq.1.toNat : Int), .int .u64 (qq.2.1.toNat : Int), .int .u64 (qq.2.2.1.toNat : Int), .int .u64 (qq.2.2.2.toNat : Int)]) (by simp [results, Try.results29, go_sem, z0, z1, z2, z3]) rfl ⟨rfl, ?_⟩
      exact sbe4 h4 (by omega) _ _ _ _

set_option maxHeartbeats 1600000 in
theorem indexB_any (v : Value) (l : List Bool) (w : World) (h : Bls w v l) :
    Calls Try.prog 28 #[v, .bool true] w fun e w' => e = .returned (.int .i64 (firstR l.length fun i => l.getD i false)) ∧ Below w.heap.size w w' := by
  obtain ⟨ao, cap, rfl, hm, hcs⟩ := h
  have HCS : Hid (l = [] ∨ ∃ b o, ao = some ⟨b, o, none⟩ ∧ b < w.heap.size ∧ ∀ i (hi : i < l.length), w.cell? ⟨b, o + i, none⟩ = some (.bool l[i])) := hcs
  clear hcs
  obtain ⟨r, HR⟩ : ∃ r, Hid (firstR l.length (fun i => l.getD i false) = r) := ⟨_, (rfl : _ = _)⟩
  rw [HR.out]
  go_enter Try.func28, Try.ntmps28
  go_wp2_with fail
  go_loopw [8] (fun i wr => ∃ k : Nat, k ≤ l.length ∧ i = .int .i64 (k : Int) ∧ Hid (∀ j, j < k → l.getD j false = false) ∧ Below w.heap.size w wr) (fun i _ => l.length - (intOf i).toNat)
  case atStart => exact ⟨0, by omega, rfl, fun j hj => by omega, Below.refl _ _⟩
  case round =>
    obtain ⟨k, hk, rfl, HA, hbel⟩ := hrel
    by_cases hlt : k < l.length
    · obtain ⟨b, o, rfl, hb, hcell⟩ := HCS.out.resolve_left (fun e => by rw [e] at hlt; simp at hlt)
      have y0 := (hbel.cell (p := ⟨b, o + k, none⟩) hb).trans (hcell k hlt)
      have hk0 : (0 : Int) ≤ (k : Int) := by omega
      have hk1 : (k : Int) < (l.length : Int) := by omega
      have e0 : l.getD k false = l[k] := by rw [List.getD_eq_getElem?_getD, List.getElem?_eq_getElem hlt]; rfl
      cases hc : l[k] with
      | true =>
        rw [hc] at y0 e0
        have HF : Hid (r = (k : Int)) := by show _ = _; rw [← HR.out]; exact firstR_some hlt e0 HA.out
        clear hcell hc e0
        go_wp2_with fail
        go_ret
        exact ⟨by simp [HF.out], hbel⟩
      | false =>
        rw [hc] at y0 e0
        have HNX : Hid (∀ j, j < k + 1 → l.getD j false = false) := fun j hj => by
          by_cases e : j = k
          · rw [e]; exact e0
          · exact HA.out j (by omega)
        clear hcell hc e0
        go_wp2_with fail
        go_roundw
        case rel => exact ⟨k + 1, by omega, by go_num, HNX, hbel⟩
        case measure => simp [intOf]; omega
    · obtain rfl : k = l.length := by omega
      have HF : Hid (r = -1) := by show _ = _; rw [← HR.out]; exact firstR_none HA.out
      go_wp2_with fail
      go_ret
      exact ⟨by simp [HF.out], hbel⟩
end Go.Proofs.Ytlmlkpdppkgenaa

namespace Go.Proofs.Ytlmlkpdppkgenaa
open Go.RowKit
open Cls Po Dm

theorem made4 (n : Nat) : madeCells #[Value.int .u64 0, .int .u64 0, .int .u64 0, .int .u64 0] (n * 4) = Array.replicate (n * 4) (Value.int .u64 0) := by
  apply Array.ext
  · simp [madeCells]
  · intro i h1 h2
    have h3 : i % 4 < 4 := Nat.mod_lt _ (by omega)
    simp only [madeCells, Array.getElem_map, Array.getElem_range, Array.getElem_replicate]
    rw [getElem!_pos _ _ (by simpa using h3)]
    have : i % 4 = 0 ∨ i % 4 = 1 ∨ i % 4 = 2 ∨ i % 4 = 3 := by omega
    rcases this with e | e | e | e <;> simp [e]
theorem make_sets (w : World) : (Instr.makeSlice 77 (.int .i64 256) (.int .i64 256)).run Try.prog w = .ok (.slice (some ⟨w.heap.size, 0, none⟩) 256 256) (w.alloc (.cells (Array.replicate 1024 (Value.int .u64 0)) 74)) := by
  obtain ⟨i, hi, hz, hs, hb⟩ := info_parts info74
  have := run_make (P := Try.prog) w 77 74 i _ Try.underlying77 hi hz .i64 .i64 256 256 (by omega) (Int.le_refl _) (by rw [hb]; omega) (by omega)
  rw [this, hs]
  simp only [Value.cells]
  exact congrArg (fun z => Result.ok _ (w.alloc (.cells z 74))) (made4 256)
theorem sets_made (w : World) : (w.alloc (.cells (Array.replicate 1024 (Value.int .u64 0)) 74)).rowIs w.heap.size 74 1024 (fun _ => .int .u64 0) := by
  have := World.rowIs_alloc w (Array.replicate 1024 (Value.int .u64 0)) 74 (fun _ => .int .u64 0) (fun i hi => by simp at hi; simp [hi])
  simpa using this
theorem hvL_succ (p : P) (b k : Nat) : hvL p b (k + 1) = hvL p b k ++ (if hasAt p b (k : Int) = true then [(k : Int)] else []) := sel_step k _
theorem hvL_in (p : P) (b k : Nat) (hk : k ≤ 256) : ∀ x ∈ hvL p b k, 0 ≤ x ∧ x < 256 := sel_in k _ hk
theorem hvL_length (p : P) (b k : Nat) : (hvL p b k).length ≤ k := sel_length k _
/-- Row k's four words are laid. -/
theorem row_lay {W : World} {g k : Nat} {p : P} {q : Cl} (h : W.rowIs g 74 1024 (fun j => if j / 4 < k then hvc p j else .int .u64 0)) (hq : hv p k = q) :
    ((((W.setCell ⟨g, k * 4, none⟩ (.int .u64 (q.1.toNat : Int))).setCell ⟨g, k * 4 + 1, none⟩ (.int .u64 (q.2.1.toNat : Int))).setCell ⟨g, k * 4 + 2, none⟩ (.int .u64 (q.2.2.1.toNat : Int))).setCell ⟨g, k * 4 + 3, none⟩ (.int .u64 (q.2.2.2.toNat : Int))).rowIs g 74 1024 (fun j => if j / 4 < k + 1 then hvc p j else .int .u64 0) := by
  refine ((((h.set (k * 4) _).set (k * 4 + 1) _).set (k * 4 + 2) _).set (k * 4 + 3) _).congr fun j _ => ?_
  by_cases e0 : j = k * 4
  · subst e0
    rw [if_neg (by omega), if_neg (by omega), if_neg (by omega), if_pos rfl, if_pos (by omega)]
    unfold hvc; rw [show k * 4 / 4 = k by omega, show k * 4 % 4 = 0 by omega, hq]; rfl
  · by_cases e1 : j = k * 4 + 1
    · subst e1
      rw [if_neg (by omega), if_neg (by omega), if_pos rfl, if_pos (by omega)]
      unfold hvc; rw [show (k * 4 + 1) / 4 = k by omega, show (k * 4 + 1) % 4 = 1 by omega, hq]; rfl
    · by_cases e2 : j = k * 4 + 2
      · subst e2
        rw [if_neg (by omega), if_pos rfl, if_pos (by omega)]
        unfold hvc; rw [show (k * 4 + 2) / 4 = k by omega, show (k * 4 + 2) % 4 = 2 by omega, hq]; rfl
      · by_cases e3 : j = k * 4 + 3
        · subst e3
          rw [if_pos rfl, if_pos (by omega)]
          unfold hvc; rw [show (k * 4 + 3) / 4 = k by omega, show (k * 4 + 3) % 4 = 3 by omega, hq]; rfl
        · rw [if_neg e3, if_neg e2, if_neg e1, if_neg e0]
          by_cases e4 : j / 4 < k
          · rw [if_pos e4, if_pos (by omega)]
          · rw [if_neg e4, if_neg (by omega)]
/-- What the inner loop holds. -/
structure Hi (w : World) (p : P) (k j : Nat) (lo : Option Addr) (ln lc : Nat) (W : World) : Prop where
  bl : Below w.heap.size w W
  rw_ : W.rowIs w.heap.size 74 1024 (fun j => if j / 4 < k then hvc p j else .int .u64 0)
  own : W.ownsRow (w.heap.size + 1) 3 1 (.slice lo ln lc) ln ((hvL p k j).map (Value.int .i64))
  len : ln = (hvL p k j).length
  sz : w.heap.size + 1 ≤ W.heap.size
theorem Hi.next {w : World} {p : P} {k j : Nat} {lo : Option Addr} {ln lc : Nat} {W W' : World} (h : Hi w p k j lo ln lc W) (hb : Below W.heap.size W W') : Hi w p k j lo ln lc W' :=
  ⟨h.bl.trans (hb.mono h.bl.size), h.rw_.of_block (hb.block _ h.rw_.lt), own_below h.own hb, h.len, Nat.le_trans h.sz hb.size⟩

set_option maxHeartbeats 8000000 in
set_option maxRecDepth 20000 in
theorem havingByte_any (v0 : Value) (p : P) (w : World) (h : Cs w v0 p.cls) (hn : p.cls.length ≤ 200) :
    Calls Try.prog 54 #[v0] w fun e w' => e = .returned (.slice (some ⟨w.heap.size, 0, none⟩) 256 256) ∧ w'.rowIs w.heap.size 74 1024 (hvc p) ∧ Below w.heap.size w w' := by
  obtain ⟨i3, a1, a2, a3, a4⟩ := info_parts iinfo3
  have H3 : Hid (Try.prog.info? 3 = some i3 ∧ i3.zero = some (.int .i64 0) ∧ i3.size = 1 ∧ i3.bytes = 8) := ⟨a1, a2, a3, a4⟩
  clear a1 a2 a3 a4
  have HN : Hid (p.cls.length ≤ 200) := hn
  have hmk := make_sets
  obtain ⟨a0, k0, rfl, m0, q0⟩ := h
  have HQ0 : Hid (p.cls = [] ∨ ∃ b o, a0 = some ⟨b, o, none⟩ ∧ b < w.heap.size ∧ ∀ i (hi : i < p.cls.length) j, j < 4 → w.cell? ⟨b, o + i * 4 + j, none⟩ = some (.int .u64 ((wd p.cls[i] j).toNat : Int))) := q0
  obtain ⟨n, HYtlmlkpdppkgenaa⟩ : ∃ q, Hid (p.cls.length = q) := ⟨_, (rfl : _ = _)⟩
  rw [HYtlmlkpdppkgenaa.out] at m0 ⊢
  have HR0 : Hid ((w.alloc (.cells (Array.replicate 1024 (Value.int .u64 0)) 74)).rowIs w.heap.size 74 1024 (fun j => if j / 4 < 0 then hvc p j else .int .u64 0) ∧ Below w.heap.size w (w.alloc (.cells (Array.replicate 1024 (Value.int .u64 0)) 74))) := ⟨(sets_made w).congr fun j _ => by rw [if_neg (by omega)], (Below.refl _ _).alloc (Nat.le_refl _) _⟩
  obtain ⟨w0, HW0⟩ : ∃ q, Hid (w.alloc (.cells (Array.replicate 1024 (Value.int .u64 0)) 74) = q) := ⟨_, (rfl : _ = _)⟩
  rw [HW0.out] at HR0
  clear q0 hn
  go_enter Try.func54, Try.ntmps54
  go_upto_region 2 with fail
  rw [HW0.out]
  clear HW0 hmk
  go_wp2_with fail
  go_loopw [11] (fun i wr => ∃ k : Nat, k ≤ 256 ∧ i = .int .i64 (k : Int) ∧ Hid (wr.rowIs w.heap.size 74 1024 (fun j => if j / 4 < k then hvc p j else .int .u64 0) ∧ Below w.heap.size w wr)) (fun i _ => 256 - (intOf i).toNat)
  case atStart => exact ⟨0, by omega, rfl, HR0⟩
  case round =>
    clear HR0
    obtain ⟨k, hk, rfl, HA⟩ := hrel
    by_cases hlt : k < 256
    · have HI0 : Hid (Hi w p k 0 none 0 0 wr) := ⟨HA.out.2, HA.out.1, ⟨rfl, Or.inl ⟨rfl, rfl⟩⟩, rfl, HA.out.1.lt⟩
      have hk0 : (0 : Int) ≤ (k : Int) := by omega
      have hk1 : (k : Int) < 256 := by omega
      obtain ⟨W0, rfl⟩ : ∃ q, q = wr := ⟨_, rfl⟩
      go_wp2_with fail
      go_loopw [16, 5] (fun x lv wx => ∃ (j : Nat) (lo : Option Addr) (ln lc : Nat), j ≤ n ∧ x = .int .i64 (j : Int) ∧ lv = .slice lo ln lc ∧ Hid (Hi w p k j lo ln lc wx)) (fun x _ _ => n - (intOf x).toNat)
      case atStart => exact ⟨0, none, 0, 0, by omega, rfl, rfl, HI0⟩
      case round =>
        clear HI0
        obtain ⟨j, lo, ln, lc, hj, rfl, rfl, HI⟩ := hrel
        by_cases hjl : j < n
        · have hj0 : (0 : Int) ≤ (j : Int) := by omega
          have hj1 : (j : Int) < (n : Int) := by omega
          have hl0 : j < p.cls.length := by rw [HYtlmlkpdppkgenaa.out]; exact hjl
          obtain ⟨b, o, rfl, hb, hc⟩ := HQ0.out.resolve_left (fun e => by rw [e] at hl0; simp at hl0)
          have hcj : ∀ i, i < 4 → wr.cell? ⟨b, o + j * 4 + i, none⟩ = some (.int .u64 ((wd p.cls[j] i).toNat : Int)) := fun i hi => (HI.out.bl.cell (p := ⟨b, o + j * 4 + i, none⟩) hb).trans (hc j hl0 i hi)
          have hat : hasAt p k (j : Int) = mem p.cls[j] k := by
            unfold hasAt; rw [show ((j : Int)).toNat = j by omega, List.getElem?_eq_getElem hl0]
          obtain ⟨q, HQ⟩ : ∃ q, Hid (p.cls[j] = q) := ⟨p.cls[j]'hl0, Eq.refl _⟩
          rw [HQ.out] at hcj hat
          have y0 : wr.cell? ⟨b, o + j * 4, none⟩ = some (.int .u64 (q.1.toNat : Int)) := hcj 0 (by omega)
          have y1 : wr.cell? ⟨b, o + j * 4 + 1, none⟩ = some (.int .u64 (q.2.1.toNat : Int)) := hcj 1 (by omega)
          have y2 : wr.cell? ⟨b, o + j * 4 + 2, none⟩ = some (.int .u64 (q.2.2.1.toNat : Int)) := hcj 2 (by omega)
          have y3 : wr.cell? ⟨b, o + j * 4 + 3, none⟩ = some (.int .u64 (q.2.2.2.toNat : Int)) := hcj 3 (by omega)
          have hw8 : IntKind.u8.wrap (k : Int) = (k : Int) := by simp [IntKind.wrap, IntKind.bits, IntKind.signed]; omega
          have hha := has_any q (k : Int) k rfl hlt (wr.alloc (Obj.cells #[.int .u64 (q.1.toNat : Int), .int .u64 (q.2.1.toNat : Int), .int .u64 (q.2.2.1.toNat : Int), .int .u64 (q.2.2.2.toNat : Int)] 42))
          have hb1 := (Below.refl wr.heap.size wr).alloc (Nat.le_refl _) (Obj.cells #[.int .u64 (q.1.toNat : Int), .int .u64 (q.2.1.toNat : Int), .int .u64 (q.2.2.1.toNat : Int), .int .u64 (q.2.2.2.toNat : Int)] 42)
          have HB1 : Hid (Below wr.heap.size wr (wr.alloc (Obj.cells #[.int .u64 (q.1.toNat : Int), .int .u64 (q.2.1.toNat : Int), .int .u64 (q.2.2.1.toNat : Int), .int .u64 (q.2.2.2.toNat : Int)] 42))) := hb1
          clear hc hcj hb1
          cases hm : mem q k with
          | false =>
            rw [hm] at hha hat
            have HE : Hid (hvL p k (j + 1) = hvL p k j) := by show _ = _; rw [hvL_succ, if_neg (by simp [hat]), List.append_nil]
            clear hm hat
            go_wp2_with fail
            refine hha.mono ?_
            rintro _ w3 ⟨rfl, hb3⟩
            have hh := HI.out.next (HB1.out.trans (hb3.below.mono HB1.out.size))
            have HNX : Hid (Hi w p k (j + 1) lo ln lc w3) := ⟨hh.bl, hh.rw_, by rw [HE.out]; exact hh.own, by rw [HE.out]; exact hh.len, hh.sz⟩
            clear hh hha hb3 y0 y1 y2 y3
            go_wp2_with fail
            go_roundw
            case rel => exact ⟨j + 1, lo, ln, lc, by omega, by go_num, rfl, HNX⟩
            case measure => simp [intOf]; omega
          | true =>
            rw [hm] at hha hat
            have HE : Hid (hvL p k (j + 1) = hvL p k j ++ [(j : Int)]) := by show _ = _; rw [hvL_succ, if_pos hat]
            clear hm hat
            go_upto_region 9 with fail
            go_wp2_with fail
            refine hha.mono ?_
            rintro _ w3 ⟨rfl, hb3⟩
            have HI3 : Hid (Hi w p k j lo ln lc w3) := HI.out.next (HB1.out.trans (hb3.below.mono HB1.out.size))
            clear hha hb3 y0 y1 y2 y3 HB1
            have hb4 := (Below.refl w3.heap.size w3).alloc (Nat.le_refl _) (Obj.cells #[.int .i64 (j : Int)] 3)
            have hi4 := HI3.out.next hb4
            have hle : ln ≤ 200 := by rw [HI3.out.len]; have := hvL_length p k j; have := HN.out; omega
            obtain ⟨g2, k2, w5, hrun, hown, hgrw, hor, -⟩ := run_append_lies (P := Try.prog) (w3.alloc (Obj.cells #[.int .i64 (j : Int)] 3)) 23 23 (w.heap.size + 1) 3 i3 _ 1 8 Try.underlying23 H3.out.1 H3.out.2.1 H3.out.2.2.1 H3.out.2.2.2 rfl (by omega) (.slice lo ln lc) ln ((hvL p k j).map (Value.int .i64)) hi4.own ⟨w3.heap.size, 0, none⟩ 1 1 [.int .i64 (j : Int)] rfl (fun i u hu => by rw [Addr.add_lit, Nat.zero_add, cell_new w3 [.int .i64 (j : Int)] 3 i]; exact hu) (by intro u hu; simp at hu; subst hu; rfl) (by omega) (by unfold maxLen; omega) (by omega) hi4.sz _ rfl
            have HRUN : Hid ((Builtin.append_ #[23, 23] 23 #[.slice lo ln lc, .slice (some ⟨w3.heap.size, 0, none⟩) 1 1]).run Try.prog (w3.alloc (Obj.cells #[.int .i64 (j : Int)] 3)) = .ok (.slice (some ⟨g2, 0, none⟩) (ln + 1) k2) w5) := hrun
            have HNX : Hid (Hi w p k (j + 1) (some ⟨g2, 0, none⟩) (ln + 1) k2 w5) := by
              have hne : ∀ q, q ≤ w.heap.size → some q ≠ (Value.slice lo ln lc).ownBlock := fun q hq e => by have := (hi4.own.lt q e.symm).1; omega
              refine ⟨hi4.bl.grown hgrw hi4.bl.size (fun q hq => ?_), hi4.rw_.of_block (hgrw.block _ hi4.rw_.lt (hne _ (Nat.le_refl _))), ?_, ?_, Nat.le_trans hi4.sz hgrw.size⟩
              · have := (hi4.own.lt q hq).1; omega
              · rw [HE.out, List.map_append]; exact hown
              · rw [HE.out, List.length_append, hi4.len]; rfl
            clear hrun hown hgrw hor hi4 hb4 hle
            go_wp2_with (refine wpList_append_run rfl _ _ 23 rfl _ _ rfl rfl HRUN.out ?_)
            clear HRUN
            go_roundw
            case rel => exact ⟨j + 1, some ⟨g2, 0, none⟩, ln + 1, k2, by omega, by go_num, rfl, HNX⟩
            case measure => simp [intOf]; omega
        · obtain rfl : j = n := by omega
          have hin := hvL_in p k j (by have := HN.out; have := HYtlmlkpdppkgenaa.out; omega)
          have hso := setOf_any (.slice lo ln lc) (hvL p k j) wr (ints_of_own (by have := HI.out.own; rwa [HI.out.len] at this ⊢) (by have := hvL_length p k j; have := HN.out; have := HYtlmlkpdppkgenaa.out; omega)) hin
          have HHV : Hid (stOf (hvL p k j) = hv p k) := by show _ = _; rw [← HYtlmlkpdppkgenaa.out]; rfl
          obtain ⟨q, HQ⟩ : ∃ q, Hid (hv p k = q) := ⟨_, (rfl : _ = _)⟩
          rw [HHV.out, HQ.out] at hso
          clear hin
          go_wp2_with fail
          refine hso.mono ?_
          rintro _ w3 ⟨rfl, hb3⟩
          have hh := HI.out.next hb3
          have hr3 := hh.rw_
          have y0 := hr3.cell (i := k * 4) (by omega)
          have y1 := hr3.cell (i := k * 4 + 1) (by omega)
          have y2 := hr3.cell (i := k * 4 + 2) (by omega)
          have y3 := hr3.cell (i := k * 4 + 3) (by omega)
          rw [if_neg (by omega)] at y0 y1 y2 y3
          have z0 := hr3.frozen (k * 4)
          have z1 := hr3.frozen (k * 4 + 1)
          have z2 := hr3.frozen (k * 4 + 2)
          have z3 := hr3.frozen (k * 4 + 3)
          have HNX : Hid (((((w3.setCell ⟨w.heap.size, k * 4, none⟩ (.int .u64 (q.1.toNat : Int))).setCell ⟨w.heap.size, k * 4 + 1, none⟩ (.int .u64 (q.2.1.toNat : Int))).setCell ⟨w.heap.size, k * 4 + 2, none⟩ (.int .u64 (q.2.2.1.toNat : Int))).setCell ⟨w.heap.size, k * 4 + 3, none⟩ (.int .u64 (q.2.2.2.toNat : Int))).rowIs w.heap.size 74 1024 (fun j => if j / 4 < k + 1 then hvc p j else .int .u64 0) ∧ Below w.heap.size w ((((w3.setCell ⟨w.heap.size, k * 4, none⟩ (.int .u64 (q.1.toNat : Int))).setCell ⟨w.heap.size, k * 4 + 1, none⟩ (.int .u64 (q.2.1.toNat : Int))).setCell ⟨w.heap.size, k * 4 + 2, none⟩ (.int .u64 (q.2.2.1.toNat : Int))).setCell ⟨w.heap.size, k * 4 + 3, none⟩ (.int .u64 (q.2.2.2.toNat : Int)))) := ⟨row_lay hr3 HQ.out, (((hh.bl.setCell (Nat.le_refl _) _).setCell (Nat.le_refl _) _).setCell (Nat.le_refl _) _).setCell (Nat.le_refl _) _⟩
          clear hh hr3 hso hb3 HI
          go_wp2_with fail
          go_roundw
          case rel => exact ⟨k + 1, by omega, by go_num, HNX⟩
          case measure => simp [intOf]; omega
    · obtain rfl : k = 256 := by omega
      have HF : Hid (wr.rowIs w.heap.size 74 1024 (hvc p)) := HA.out.1.congr fun j hj => by rw [if_pos (by omega)]
      have HBL : Hid (Below w.heap.size w wr) := HA.out.2
      go_wp2_with fail
      go_ret
      exact ⟨by simp, HF.out, HBL.out⟩
end Go.Proofs.Ytlmlkpdppkgenaa

namespace Go.Proofs.Ytlmlkpdppkgenaa
open Go.RowKit
open Cls Po Dm

/-- What tagOf holds. -/
structure Tg (w : World) (v1 v4 : Value) (c : Cl) (W : World) : Prop where
  bl : Below w.heap.size w W
  c1 : W.cell? ⟨w.heap.size, 1, none⟩ = some v1
  c4 : W.cell? ⟨w.heap.size, 4, none⟩ = some v4
  bx : Bx W (w.heap.size + 1) c
  sz : w.heap.size + 2 ≤ W.heap.size
theorem Tg.next {w : World} {v1 v4 : Value} {c : Cl} {W W' : World} (h : Tg w v1 v4 c W) (hb : Below W.heap.size W W') : Tg w v1 v4 c W' := by
  have := h.sz
  exact ⟨h.bl.trans (hb.mono h.bl.size), (hb.cell (p := ⟨w.heap.size, 1, none⟩) (by simp; omega)).trans h.c1, (hb.cell (p := ⟨w.heap.size, 4, none⟩) (by simp; omega)).trans h.c4, h.bx.next hb, Nat.le_trans h.sz hb.size⟩

set_option maxHeartbeats 4000000 in
set_option maxRecDepth 20000 in
theorem tagOf_any (v0 v1 v2 v3 v4 v5 : Value) (p : P) (c : Cl) (w : World) (hp : Pn w v0 v1 v2 v3 v4 v5 p) (hok : ok p = true) (hn : p.cls.length ≤ 200) :
    Calls Try.prog 30 #[.agg #[v0, v1, v2, v3, v4, v5], .agg #[.int .u64 (c.1.toNat : Int), .int .u64 (c.2.1.toNat : Int), .int .u64 (c.2.2.1.toNat : Int), .int .u64 (c.2.2.2.toNat : Int)]] w fun e w' => e = .returned (.int .i64 (tgF p c)) ∧ Below w.heap.size w w' := by
  have HOK : Hid (ok p = true) := hok
  obtain ⟨hr, -, hla, -, -, -, -, -⟩ := (ok_iff p).1 hok
  obtain ⟨h0, h1, h2, h3, h4, h5⟩ := hp
  obtain ⟨a0, k0, rfl, m0, -⟩ := h0
  obtain ⟨a1, k1, rfl, m1, q1⟩ := h1
  obtain ⟨a2, k2, rfl, m2, -⟩ := h2
  obtain ⟨a3, k3, rfl, m3, -⟩ := h3
  obtain ⟨a4, k4, rfl, m4, q4⟩ := h4
  obtain ⟨a5, k5, rfl, m5, -⟩ := h5
  have HQ1 : Hid (p.rules = [] ∨ ∃ b o, a1 = some ⟨b, o, none⟩ ∧ b < w.heap.size ∧ ∀ i (hi : i < p.rules.length), w.cell? ⟨b, o + i, none⟩ = some (.int .i64 p.rules[i])) := q1
  have HQ4 : Hid (p.last = [] ∨ ∃ b o, a4 = some ⟨b, o, none⟩ ∧ b < w.heap.size ∧ ∀ i (hi : i < p.last.length), w.cell? ⟨b, o + i, none⟩ = some (.bool p.last[i])) := q4
  have HLR : Hid (p.rules.length = p.cls.length ∧ p.last.length = p.cls.length ∧ p.cls.length ≤ 200) := ⟨hr, hla, hn⟩
  obtain ⟨n1, HN1⟩ : ∃ q, Hid (p.rules.length = q) := ⟨_, (rfl : _ = _)⟩
  obtain ⟨n4, HN4⟩ : ∃ q, Hid (p.last.length = q) := ⟨_, (rfl : _ = _)⟩
  generalize p.cls.length = n0 at m0
  generalize p.first.length = n2 at m2
  generalize p.follow.length = n3 at m3
  generalize p.empty.length = n5 at m5
  rw [HN1.out] at m1 ⊢
  rw [HN4.out] at m4 ⊢
  clear q1 q4 hr hla hn hok m0 m2 m3 m5
  have H14 : Hid (n1 = n4) := by show _ = _; rw [← HN1.out, ← HN4.out, HLR.out.1, HLR.out.2.1]
  obtain ⟨w0, HW0⟩ : ∃ q, Hid ((w.alloc (Obj.cells #[.slice a0 n0 k0, .slice a1 n1 k1, .slice a2 n2 k2, .slice a3 n3 k3, .slice a4 n4 k4, .slice a5 n5 k5] 27)).alloc (.cells #[.int .u64 (c.1.toNat : Int), .int .u64 (c.2.1.toNat : Int), .int .u64 (c.2.2.1.toNat : Int), .int .u64 (c.2.2.2.toNat : Int)] 74) = q) := ⟨_, (rfl : _ = _)⟩
  have HT0 : Hid (Tg w (.slice a1 n1 k1) (.slice a4 n4 k4) c w0) := by
    rw [← HW0.out]
    have hb1 := (Below.refl w.heap.size w).alloc (Nat.le_refl _) (Obj.cells #[.slice a0 n0 k0, .slice a1 n1 k1, .slice a2 n2 k2, .slice a3 n3 k3, .slice a4 n4 k4, .slice a5 n5 k5] 27)
    have hx := bx_new74 (w.alloc (Obj.cells #[.slice a0 n0 k0, .slice a1 n1 k1, .slice a2 n2 k2, .slice a3 n3 k3, .slice a4 n4 k4, .slice a5 n5 k5] 27)) c
    rw [show (w.alloc (Obj.cells #[.slice a0 n0 k0, .slice a1 n1 k1, .slice a2 n2 k2, .slice a3 n3 k3, .slice a4 n4 k4, .slice a5 n5 k5] 27)).heap.size = w.heap.size + 1 by simp] at hx
    exact ⟨hb1.alloc (by simp) _, Go.Lib.cell?_alloc_some _ (by simp), Go.Lib.cell?_alloc_some _ (by simp), hx, by simp⟩
  have y2 := HT0.out.c1
  obtain ⟨r, HRT⟩ : ∃ r, Hid (tgF p c = r) := ⟨_, (rfl : _ = _)⟩
  rw [HRT.out]
  go_enter Try.func30, Try.ntmps30
  go_upto_region 2 with fail
  rw [HW0.out]
  clear HW0
  go_wp2_with fail
  clear y2
  go_loopw [11, 5] (fun i tv wr => ∃ (k : Nat) (t : Int), k ≤ n1 ∧ i = .int .i64 (k : Int) ∧ tv = .int .i64 t ∧ Hid (LT p c k t) ∧ Hid (Tg w (.slice a1 n1 k1) (.slice a4 n4 k4) c wr)) (fun i _ _ => n1 - (intOf i).toNat)
  case atStart => exact ⟨0, -1, by omega, rfl, rfl, LT.start p c, HT0⟩
  case round =>
    clear HT0
    obtain ⟨k, t, hk, rfl, rfl, HLT, HT⟩ := hrel
    by_cases hlt : k < n1
    · have hl1 : k < p.rules.length := by rw [HN1.out]; exact hlt
      have hl4 : k < p.last.length := by rw [HN4.out]; have := H14.out; omega
      obtain ⟨b1, o1, rfl, hb1, hc1⟩ := HQ1.out.resolve_left (fun e => by rw [e] at hl1; simp at hl1)
      obtain ⟨b4, o4, rfl, hb4, hc4⟩ := HQ4.out.resolve_left (fun e => by rw [e] at hl4; simp at hl4)
      have y1 := (HT.out.bl.cell (p := ⟨b1, o1 + k, none⟩) hb1).trans (hc1 k hl1)
      have y4 := (HT.out.bl.cell (p := ⟨b4, o4 + k, none⟩) hb4).trans (hc4 k hl4)
      have er : p.rules.getD k 0 = p.rules[k] := by rw [List.getD_eq_getElem?_getD, List.getElem?_eq_getElem hl1]; rfl
      have el : p.last.getD k false = p.last[k] := by rw [List.getD_eq_getElem?_getD, List.getElem?_eq_getElem hl4]; rfl
      have hr0 : 0 ≤ p.rules.getD k 0 := (rule_at HOK.out (by have := HLR.out.1; omega)).1
      rw [← er] at y1
      rw [← el] at y4
      obtain ⟨rk, HRK⟩ : ∃ q, Hid (p.rules.getD k 0 = q) := ⟨_, (rfl : _ = _)⟩
      rw [HRK.out] at y1 hr0
      have hk0 : (0 : Int) ≤ (k : Int) := by omega
      have hk1 : (k : Int) < (n1 : Int) := by omega
      have hk4 : (k : Int) < (n4 : Int) := by have := H14.out; omega
      have yb := HT.out.c4
      obtain ⟨z0, z1, z2, z3⟩ := HT.out.bx
      have hha := shas_any c (k : Int) k rfl (by have := HLR.out; have := HN1.out; omega) wr
      clear hc1 hc4 er el
      cases hl : p.last.getD k false with
      | false =>
        rw [hl] at y4
        have HNX : Hid (LT p c (k + 1) t) := HLT.out.skip (by rw [hl]; rfl)
        clear hl hha
        go_wp2_with fail
        go_roundw
        case rel => exact ⟨k + 1, t, by omega, by go_num, rfl, HNX, HT⟩
        case measure => simp [intOf]; omega
      | true =>
        rw [hl] at y4
        cases hm : mem c k with
        | false =>
          rw [hm] at hha
          have HNX : Hid (LT p c (k + 1) t) := HLT.out.skip (by rw [hl, hm]; rfl)
          clear hl hm
          go_wp2_with (go_at_call 57; refine hha.mono ?_; rintro _ w3 ⟨rfl, hb3⟩; have HT3 : Hid (Tg w (.slice (some ⟨b1, o1, none⟩) n1 k1) (.slice (some ⟨b4, o4, none⟩) n4 k4) c w3) := HT.out.next hb3; clear hb3)
          go_roundw
          case rel => exact ⟨k + 1, t, by omega, by go_num, rfl, HNX, HT3⟩
          case measure => simp [intOf]; omega
        | true =>
          rw [hm] at hha
          by_cases ht : t = -1
          · have HNX : Hid (LT p c (k + 1) rk) := by have := HLT.out.take (by rw [HRK.out]; exact hr0) (by rw [hl, hm, decide_eq_true ht]; rfl); rwa [HRK.out] at this
            have bt : (t == (-1 : Int)) = true := by simpa using ht
            clear hl hm ht
            go_wp2_with (go_at_call 57; refine hha.mono ?_; rintro _ w3 ⟨rfl, hb3⟩; have HT3 : Hid (Tg w (.slice (some ⟨b1, o1, none⟩) n1 k1) (.slice (some ⟨b4, o4, none⟩) n4 k4) c w3) := HT.out.next hb3; clear hb3)
            go_roundw
            case rel => exact ⟨k + 1, rk, by omega, by go_num, rfl, HNX, HT3⟩
            case measure => simp [intOf]; omega
          · have bt : (t == (-1 : Int)) = false := by simpa using ht
            by_cases hrt : rk < t
            · have HNX : Hid (LT p c (k + 1) rk) := by have := HLT.out.take (by rw [HRK.out]; exact hr0) (by rw [hl, hm, HRK.out, decide_eq_true hrt, Bool.or_true]; rfl); rwa [HRK.out] at this
              have br : decide (rk < t) = true := decide_eq_true hrt
              clear hl hm ht hrt
              go_wp2_with (go_at_call 57; refine hha.mono ?_; rintro _ w3 ⟨rfl, hb3⟩; have HT3 : Hid (Tg w (.slice (some ⟨b1, o1, none⟩) n1 k1) (.slice (some ⟨b4, o4, none⟩) n4 k4) c w3) := HT.out.next hb3; clear hb3)
              go_roundw
              case rel => exact ⟨k + 1, rk, by omega, by go_num, rfl, HNX, HT3⟩
              case measure => simp [intOf]; omega
            · have HNX : Hid (LT p c (k + 1) t) := HLT.out.skip (by rw [hl, hm, HRK.out, decide_eq_false ht, decide_eq_false hrt]; rfl)
              have br : decide (rk < t) = false := decide_eq_false hrt
              clear hl hm ht hrt
              go_wp2_with (go_at_call 57; refine hha.mono ?_; rintro _ w3 ⟨rfl, hb3⟩; have HT3 : Hid (Tg w (.slice (some ⟨b1, o1, none⟩) n1 k1) (.slice (some ⟨b4, o4, none⟩) n4 k4) c w3) := HT.out.next hb3; clear hb3)
              go_roundw
              case rel => exact ⟨k + 1, t, by omega, by go_num, rfl, HNX, HT3⟩
              case measure => simp [intOf]; omega
    · obtain rfl : k = n1 := by omega
      have HF : Hid (t = r) := by
        show _ = _
        rw [← HRT.out]
        exact LT.tag HOK.out (by have := HLT.out; rwa [← HN1.out, HLR.out.1] at this)
      have HBL : Hid (Below w.heap.size w wr) := HT.out.bl
      go_wp2_with fail
      go_ret
      exact ⟨by simp [HF.out], HBL.out⟩
end Go.Proofs.Ytlmlkpdppkgenaa

namespace Go.Proofs.Ytlmlkpdppkgenaa
open Go.RowKit
open Go.Maps
open Cls Po Dm

/-- A maker whose rows of what follows are under way. -/
structure Mf (B g hb mb : Nat) (fo : Option Addr) (fc sb sc : Nat) (p : P) (L : List Cl) (W : World) : Prop where
  bx : W.rowIs g 80 4 (mv hb fo L.length fc sb 1 sc mb)
  hv : W.rowIs hb 74 1024 (hvc p)
  fw : W.ownsRow B 74 4 (.slice fo L.length fc) L.length (clc L)
  st : W.ownsRow B 74 4 (.slice (some ⟨sb, 0, none⟩) 1 sc) 1 (clc [empty])
  mp : W.ownsMap Try.prog 74 (plainElem Try.prog 70) mb 0 (DataW.map (H := Unit) [])
  ge : B ≤ g ∧ B ≤ hb ∧ B ≤ mb ∧ B ≤ sb ∧ B ≤ W.heap.size
  ne : hb ≠ sb ∧ g ≠ sb ∧ (∀ q, (Value.slice fo L.length fc).ownBlock = some q → q ≠ sb ∧ q ≠ g ∧ q ≠ mb ∧ q ≠ hb)
  nm : mb ≠ sb ∧ mb ≠ g ∧ mb ≠ hb ∧ hb ≠ g
variable {B g hb mb sb sc fc : Nat} {fo : Option Addr} {p : P} {L : List Cl} {c : Cl} {w W W' : World}
theorem Mf.lt (h : Mf B g hb mb fo fc sb sc p L W) : g < W.heap.size ∧ hb < W.heap.size ∧ sb < W.heap.size ∧ mb < W.heap.size := by
  refine ⟨h.bx.lt, h.hv.lt, (h.st.lt sb rfl).2, ?_⟩
  obtain ⟨es, clock, hb, -⟩ := h.mp
  exact (Array.getElem?_eq_some_iff.1 hb).1
theorem Mf.next (h : Mf B g hb mb fo fc sb sc p L W) (hbl : Below W.heap.size W W') : Mf B g hb mb fo fc sb sc p L W' := by
  obtain ⟨l1, l2, l3, l4⟩ := h.lt
  exact ⟨h.bx.of_block (hbl.block g l1), h.hv.of_block (hbl.block hb l2), own_keep h.fw (fun k hk => hbl.block k (h.fw.lt k hk).2), own_keep h.st (fun k hk => hbl.block k (h.st.lt k hk).2), map_same h.mp (hbl.block mb l4), ⟨h.ge.1, h.ge.2.1, h.ge.2.2.1, h.ge.2.2.2.1, Nat.le_trans h.ge.2.2.2.2 hbl.size⟩, h.ne, h.nm⟩
theorem Mf.drew (h : Mf B g hb mb fo fc sb sc p L W) : Mf B g hb mb fo fc sb sc p L W.drew := h.next (Below.refl _ _).drew
theorem Mf.grow {gr cr : Nat} (h : Mf B g hb mb fo fc sb sc p L W) (hg : W.grownBy W' (Value.slice fo L.length fc).ownBlock) (ho : W'.ownsRow B 74 4 (.slice (some ⟨gr, 0, none⟩) (L.length + 1) cr) (L.length + 1) (clc (L ++ [c]))) (hr : (Value.slice fo L.length fc).ownBlock = some gr ∨ gr = W.heap.size) :
    W'.rowIs g 80 4 (mv hb fo L.length fc sb 1 sc mb) ∧ Mf B g hb mb (some ⟨gr, 0, none⟩) cr sb sc p (L ++ [c]) (W'.setCell ⟨g, 1, none⟩ (.slice (some ⟨gr, 0, none⟩) (L.length + 1) cr)) := by
  obtain ⟨l1, l2, l3, l4⟩ := h.lt
  have e : ∀ k, k < W.heap.size → (Value.slice fo L.length fc).ownBlock ≠ some k → W'.heap[k]? = W.heap[k]? := fun k hk hk2 => hg.block k hk (fun x => hk2 x.symm)
  have e2 : ∀ k, k ≠ g → (W'.setCell ⟨g, 1, none⟩ (.slice (some ⟨gr, 0, none⟩) (L.length + 1) cr)).heap[k]? = W'.heap[k]? := fun k hk => Below.heap_setCell _ _ _ _ hk
  have n1 : (Value.slice fo L.length fc).ownBlock ≠ some g := fun x => (h.ne.2.2 g x).2.1 rfl
  have n2 : (Value.slice fo L.length fc).ownBlock ≠ some hb := fun x => (h.ne.2.2 hb x).2.2.2 rfl
  have n3 : (Value.slice fo L.length fc).ownBlock ≠ some sb := fun x => (h.ne.2.2 sb x).1 rfl
  have n4 : (Value.slice fo L.length fc).ownBlock ≠ some mb := fun x => (h.ne.2.2 mb x).2.2.1 rfl
  have hb1 := h.bx.of_block (e g l1 n1)
  have ngr : ∀ k, k < W.heap.size → (Value.slice fo L.length fc).ownBlock ≠ some k → gr ≠ k := fun k hk hk2 x => by
    rcases hr with r | r
    · exact hk2 (by rw [r, x])
    · omega
  have hlen : (L ++ [c]).length = L.length + 1 := by simp
  refine ⟨hb1, ⟨?_, ?_, ?_, ?_, ?_, ⟨h.ge.1, h.ge.2.1, h.ge.2.2.1, h.ge.2.2.2.1, ?_⟩, ⟨h.ne.1, h.ne.2.1, fun q hq => ?_⟩, h.nm⟩⟩
  · rw [hlen]
    exact (hb1.set 1 _).congr fun i _ => by
      unfold mv
      by_cases e : i = 1
      · subst e; simp
      · simp [e]
  · exact h.hv.of_block ((e2 hb h.nm.2.2.2).trans (e hb l2 n2))
  · rw [hlen]
    refine own_keep ho (fun k hk => e2 k ?_)
    have : k = gr := by simpa [Value.ownBlock, eq_comm] using hk
    subst this
    exact ngr g l1 n1
  · refine own_keep h.st (fun k hk => ?_)
    have hk2 : k = sb := by simpa [Value.ownBlock, eq_comm] using hk
    subst hk2
    exact (e2 _ (Ne.symm h.ne.2.1)).trans (e _ l3 n3)
  · exact map_same h.mp ((e2 mb h.nm.2.1).trans (e mb l4 n4))
  · have := hg.size
    have := h.ge.2.2.2.2
    simp [World.setCell]; omega
  · have : q = gr := by simpa [Value.ownBlock, eq_comm] using hq
    subst this
    exact ⟨ngr sb l3 n3, ngr g l1 n1, ngr mb l4 n4, ngr hb l2 n2⟩
theorem own_one {w : World} {B : Nat} (hB : B ≤ w.heap.size) (c : Cl) : (w.alloc (.cells #[.int .u64 (c.1.toNat : Int), .int .u64 (c.2.1.toNat : Int), .int .u64 (c.2.2.1.toNat : Int), .int .u64 (c.2.2.2.toNat : Int)] 74)).ownsRow B 74 4 (.slice (some ⟨w.heap.size, 0, none⟩) 1 1) 1 (clc [c]) :=
  ⟨rfl, Or.inr ⟨w.heap.size, 1, _, rfl, hB, heap_alloc_new w _, by first | omega | (unfold maxLen; omega), by first | omega | (unfold maxLen; omega), rfl, rfl⟩⟩
/-- The maker as it is made. -/
theorem Mf.start {w1 : World} (hB : B ≤ hb) (hr : w1.rowIs hb 74 1024 (hvc p)) :
    Mf B (w1.heap.size + 2) hb (w1.heap.size + 1) none 0 w1.heap.size 1 p [] (((w1.alloc (.cells #[.int .u64 (empty.1.toNat : Int), .int .u64 (empty.2.1.toNat : Int), .int .u64 (empty.2.2.1.toNat : Int), .int .u64 (empty.2.2.2.toNat : Int)] 74)).alloc (Obj.map #[] 0)).alloc (.cells #[.slice (some ⟨hb, 0, none⟩) 256 256, .slice none 0 0, .slice (some ⟨w1.heap.size, 0, none⟩) 1 1, .map (some (w1.heap.size + 1))] 80)) := by
  have hl := hr.lt
  have s1 : (w1.alloc (.cells #[.int .u64 (empty.1.toNat : Int), .int .u64 (empty.2.1.toNat : Int), .int .u64 (empty.2.2.1.toNat : Int), .int .u64 (empty.2.2.2.toNat : Int)] 74)).heap.size = w1.heap.size + 1 := by simp
  have s2 : ((w1.alloc (.cells #[.int .u64 (empty.1.toNat : Int), .int .u64 (empty.2.1.toNat : Int), .int .u64 (empty.2.2.1.toNat : Int), .int .u64 (empty.2.2.2.toNat : Int)] 74)).alloc (Obj.map #[] 0)).heap.size = w1.heap.size + 2 := by simp
  have hm := World.ownsMap_made (H := Unit) (w1.alloc (.cells #[.int .u64 (empty.1.toNat : Int), .int .u64 (empty.2.1.toNat : Int), .int .u64 (empty.2.2.1.toNat : Int), .int .u64 (empty.2.2.2.toNat : Int)] 74)) Try.prog 74 (plainElem Try.prog 70)
  rw [s1] at hm
  have hb4 := World.rowIs_alloc ((w1.alloc (.cells #[.int .u64 (empty.1.toNat : Int), .int .u64 (empty.2.1.toNat : Int), .int .u64 (empty.2.2.1.toNat : Int), .int .u64 (empty.2.2.2.toNat : Int)] 74)).alloc (Obj.map #[] 0)) #[.slice (some ⟨hb, 0, none⟩) 256 256, .slice none 0 0, .slice (some ⟨w1.heap.size, 0, none⟩) 1 1, .map (some (w1.heap.size + 1))] 80 (mv hb none 0 0 w1.heap.size 1 1 (w1.heap.size + 1)) (fun i hi => by
    have : i = 0 ∨ i = 1 ∨ i = 2 ∨ i = 3 := by simp at hi; omega
    rcases this with rfl | rfl | rfl | rfl <;> rfl)
  rw [s2] at hb4
  have ho := own_one (B := B) (w := w1) (by omega) empty
  exact ⟨hb4, ((hr.alloc _).alloc _).alloc _, ⟨rfl, Or.inl ⟨rfl, rfl⟩⟩, own_below (own_below ho ((Below.refl _ _).alloc (Nat.le_refl _) _)) ((Below.refl _ _).alloc (Nat.le_refl _) _), hm.alloc _, ⟨by omega, hB, by omega, by omega, by simp; omega⟩, ⟨by omega, by omega, fun q hq => by simp [Value.ownBlock] at hq⟩, ⟨by omega, by omega, by omega, by omega⟩⟩
theorem Mf.ma (h : Mf B g hb mb fo fc sb sc p (flS p) W) : Ma B g hb mb fo fc sb sc p [empty] (DataW.map (H := Unit) []) W := by
  have hl : (flS p).length = p.follow.length := by simp [flS]
  obtain ⟨h1, h2, h3, h4, h5, h6, h7, h8⟩ := h
  rw [hl] at h1 h3 h7
  exact ⟨h1, h2, h3, h4, h5, MK.start, h6, ⟨h7.1, h7.2.1, fun q hq => ⟨(h7.2.2 q hq).1, (h7.2.2 q hq).2.1, (h7.2.2 q hq).2.2.1⟩⟩, h8⟩
/-- What newMaker leaves. -/
def NewP (p : P) (w : World) (e : Ending) (w' : World) : Prop :=
  ∃ g hb mb fo fc sb sc, e = .returned (.pointer (some ⟨g, 0, none⟩)) ∧ Ma w.heap.size g hb mb fo fc sb sc p [empty] (DataW.map (H := Unit) []) w' ∧ Below w.heap.size w w'
structure RNw (w w2 : World) (B g hb mb : Nat) (fo : Option Addr) (fc sb sc : Nat) (p : P) (L : List Cl) (uo : Option Addr) (ul uc : Nat) (q : Cl) (gb : Nat) (gr : Nat) (cr : Nat) (d : Nat → Bool) (x21 x22 x23 x24 x25 x26 x27 x28 x29 x30 x31 : Value) (W : World) : Prop where
  f0 : d 0 = true → x21 = (.pointer (some ⟨g, 0, none⟩))
  f1 : d 1 = true → x22 = (.pointer (some ⟨g, 0, none⟩))
  f2 : d 2 = true → x23 = (.pointer (some ⟨g, 0, none⟩))
  f3 : d 3 = true → x24 = (.pointer (some ⟨g, 1, none⟩))
  f4 : d 4 = true → x25 = (.slice fo L.length fc)
  f5 : d 5 = true → x26 = (.slice uo ul uc)
  f6 : d 6 = true → x27 = (.agg #[.int .u64 (q.1.toNat : Int), .int .u64 (q.2.1.toNat : Int), .int .u64 (q.2.2.1.toNat : Int), .int .u64 (q.2.2.2.toNat : Int)])
  f7 : d 7 = true → x28 = (.slice (some ⟨gb, 0, none⟩) 1 1)
  f8 : d 8 = true → x29 = (.slice (some ⟨gr, 0, none⟩) (L.length + 1) cr)
  f9 : d 9 = true → x30 = (.pointer (some ⟨g, 0, none⟩))
  f10 : d 10 = true → x31 = (.pointer (some ⟨g, 1, none⟩))
  f11 : d 11 = true → True
  o8_4 : d 8 = true → d 4 = true
  o8_6 : d 8 = true → d 6 = true
  o8_7 : d 8 = true → d 7 = true
  q11_8 : d 11 = true → d 8 = true
  r7_6 : d 7 = true → d 6 = true
  bl : Below B w W
  pm : d 8 = false → Mf B g hb mb fo fc sb sc p L W
  bs : d 7 = true → d 8 = false → ∀ j u, ([.int .u64 (q.1.toNat : Int), .int .u64 (q.2.1.toNat : Int), .int .u64 (q.2.2.1.toNat : Int), .int .u64 (q.2.2.2.toNat : Int)] : List Value)[j]? = some u → W.cell? ⟨gb, j, none⟩ = some u
  th : d 8 = true → d 11 = false → W.rowIs g 80 4 (mv hb fo L.length fc sb 1 sc mb) ∧ (Mf B g hb mb (some ⟨gr, 0, none⟩) cr sb sc p (L ++ [q]) (W.setCell ⟨g, 1, none⟩ (.slice (some ⟨gr, 0, none⟩) (L.length + 1) cr)) ∧ Below B w (W.setCell ⟨g, 1, none⟩ (.slice (some ⟨gr, 0, none⟩) (L.length + 1) cr)))
  fin : d 11 = true → Mf B g hb mb (some ⟨gr, 0, none⟩) cr sb sc p (L ++ [q]) W ∧ Below B w W

set_option maxHeartbeats 8000000 in
set_option maxRecDepth 20000 in
theorem newMaker_any (v0 v1 v2 v3 v4 v5 : Value) (p : P) (w : World) (hp : Pn w v0 v1 v2 v3 v4 v5 p) (hok : ok p = true) (hn : p.cls.length ≤ 200) :
    Calls Try.prog 25 #[.agg #[v0, v1, v2, v3, v4, v5]] w fun e w' => NewP p w e w' := by
  obtain ⟨i74, a1, a2, a3, a4⟩ := info_parts info74
  have H74 : Hid (Try.prog.info? 74 = some i74 ∧ i74.zero = some (.agg #[.int .u64 0, .int .u64 0, .int .u64 0, .int .u64 0]) ∧ i74.size = 4 ∧ i74.bytes = 32) := ⟨a1, a2, a3, a4⟩
  clear a1 a2 a3 a4
  obtain ⟨-, hfl, -, -, -, -, -, hfo⟩ := (ok_iff p).1 hok
  have HN : Hid (p.cls.length ≤ 200 ∧ p.follow.length = p.cls.length ∧ p.follow.all (rises p.cls.length) = true) := ⟨hn, hfl, hfo⟩
  obtain ⟨h0, h1, h2, h3, h4, h5⟩ := hp
  have HCS : Hid (Cs w v0 p.cls) := h0
  obtain ⟨b0, k0, rfl, m0, -⟩ := h0
  obtain ⟨b1, k1, rfl, m1, -⟩ := h1
  obtain ⟨b2, k2, rfl, m2, -⟩ := h2
  obtain ⟨b3, k3, rfl, m3, q3⟩ := h3
  obtain ⟨b4, k4, rfl, m4, -⟩ := h4
  obtain ⟨b5, k5, rfl, m5, -⟩ := h5
  have HQ3 : Hid (p.follow = [] ∨ ∃ b o, b3 = some ⟨b, o, none⟩ ∧ b < w.heap.size ∧ ∀ i (hi : i < p.follow.length), ∃ u, w.cell? ⟨b, o + i, none⟩ = some u ∧ Ints w u p.follow[i]) := q3
  obtain ⟨n0, HN0⟩ : ∃ q, Hid (p.cls.length = q) := ⟨_, (rfl : _ = _)⟩
  obtain ⟨n3, HN3⟩ : ∃ q, Hid (p.follow.length = q) := ⟨_, (rfl : _ = _)⟩
  generalize p.rules.length = n1 at m1
  generalize p.first.length = n2 at m2
  generalize p.last.length = n4 at m4
  generalize p.empty.length = n5 at m5
  rw [HN0.out] at m0 HCS ⊢
  rw [HN3.out] at m3 ⊢
  clear q3 hn hok hfl hfo m1 m2 m4 m5
  have hb1 := (Below.refl w.heap.size w).alloc (Nat.le_refl _) (Obj.cells #[.slice b0 n0 k0, .slice b1 n1 k1, .slice b2 n2 k2, .slice b3 n3 k3, .slice b4 n4 k4, .slice b5 n5 k5] 27)
  have hha := havingByte_any (.slice b0 n0 k0) p (w.alloc (Obj.cells #[.slice b0 n0 k0, .slice b1 n1 k1, .slice b2 n2 k2, .slice b3 n3 k3, .slice b4 n4 k4, .slice b5 n5 k5] 27)) (HCS.out.below hb1) HN.out.1
  have hmm := @run_makeMap Try.prog
  go_enter Try.func25, Try.ntmps25
  go_wp2_with fail
  refine hha.mono ?_
  rintro _ w1 ⟨rfl, hr1, hb2⟩
  rw [show (w.alloc (Obj.cells #[.slice b0 n0 k0, .slice b1 n1 k1, .slice b2 n2 k2, .slice b3 n3 k3, .slice b4 n4 k4, .slice b5 n5 k5] 27)).heap.size = w.heap.size + 1 by simp] at hr1 ⊢
  have y3 := (hb2.cell (p := ⟨w.heap.size, 3, none⟩) (by simp)).trans (show (w.alloc (Obj.cells #[.slice b0 n0 k0, .slice b1 n1 k1, .slice b2 n2 k2, .slice b3 n3 k3, .slice b4 n4 k4, .slice b5 n5 k5] 27)).cell? ⟨w.heap.size, 3, none⟩ = some (.slice b3 n3 k3) by simp)
  have hlw : w.heap.size < w1.heap.size := by have := hr1.lt; omega
  have HBW : Hid (Below w.heap.size w w1) := hb1.trans (hb2.mono hb1.size)
  obtain ⟨w4, HW4⟩ : ∃ q, Hid (((w1.alloc (Obj.cells #[.int .u64 0, .int .u64 0, .int .u64 0, .int .u64 0] 74)).alloc (Obj.map #[] 0)).alloc (.cells #[.slice (some ⟨w.heap.size + 1, 0, none⟩) 256 256, .slice none 0 0, .slice (some ⟨w1.heap.size, 0, none⟩) 1 1, .map (some (w1.heap.size + 1))] 80) = q) := ⟨_, (rfl : _ = _)⟩
  have HMF0 : Hid (∃ fo fc, Mf w.heap.size (w1.heap.size + 1 + 1) (w.heap.size + 1) (w1.heap.size + 1) fo fc w1.heap.size 1 p ((flS p).take 0) w4 ∧ Below w.heap.size w w4) := by
    rw [← HW4.out]
    exact ⟨none, 0, Mf.start (by omega) hr1, ((HBW.out.alloc (by omega) _).alloc (by simp; omega) _).alloc (by simp; omega) _⟩
  have y4 : w4.cell? ⟨w.heap.size, 3, none⟩ = some (.slice b3 n3 k3) := by rw [← HW4.out]; exact Go.Lib.cell?_alloc_some _ (Go.Lib.cell?_alloc_some _ (Go.Lib.cell?_alloc_some _ y3))
  clear hha hb1 hb2 hr1 y3
  go_upto_region 2 with fail
  rw [HW4.out]
  clear HW4 hmm
  obtain ⟨g, HG⟩ : ∃ q, Hid (w1.heap.size + 1 + 1 = q) := ⟨_, (rfl : _ = _)⟩
  rw [HG.out] at HMF0
  rw [HG.out]
  obtain ⟨mb, HMB⟩ : ∃ q, Hid (w1.heap.size + 1 = q) := ⟨_, (rfl : _ = _)⟩
  rw [HMB.out] at HMF0
  rw [HMB.out]
  obtain ⟨hb, HHB⟩ : ∃ q, Hid (w.heap.size + 1 = q) := ⟨_, (rfl : _ = _)⟩
  rw [HHB.out] at HMF0
  rw [HHB.out]
  obtain ⟨sb, HSB⟩ : ∃ q, Hid (w1.heap.size = q) := ⟨_, (rfl : _ = _)⟩
  rw [HSB.out] at HMF0
  rw [HSB.out]
  obtain ⟨sc, HSC⟩ : ∃ q : Nat, Hid (q = 1) := ⟨1, (rfl : _ = _)⟩
  rw [← HSC.out] at HMF0
  go_wp2_with fail
  clear y4
  go_loopw [17] (fun i wr => ∃ k : Nat, k ≤ n3 ∧ i = .int .i64 (k : Int) ∧ Hid (∃ fo fc, Mf w.heap.size g hb mb fo fc sb sc p ((flS p).take k) wr ∧ Below w.heap.size w wr)) (fun i _ => n3 - (intOf i).toNat)
  case atStart => exact ⟨0, by omega, rfl, HMF0⟩
  case round =>
    clear HMF0
    obtain ⟨k, hk, rfl, HA⟩ := hrel
    obtain ⟨fo, fc, hmf, hbl⟩ := HA.out
    have hlen : (flS p).length = n3 := by rw [← HN3.out]; simp [flS]
    by_cases hlt : k < n3
    · have hl3 : k < p.follow.length := by rw [HN3.out]; exact hlt
      obtain ⟨b, o, rfl, hb9, hc9⟩ := HQ3.out.resolve_left (fun e => by rw [e] at hl3; simp at hl3)
      obtain ⟨u, hu1, hu2⟩ := hc9 k hl3
      have HU : Hid (Ints w u p.follow[k]) := hu2
      obtain ⟨uo, uc, rfl, -, -⟩ := hu2
      have y5 := (hbl.cell (p := ⟨b, o + k, none⟩) hb9).trans hu1
      obtain ⟨q, HQ⟩ : ∃ q, Hid (stOf p.follow[k] = q) := ⟨stOf (p.follow[k]'hl3), Eq.refl _⟩
      have HIN : Hid (∀ x ∈ p.follow[k], 0 ≤ x ∧ x < 256) := fol_in HN.out.2.2 HN.out.1 (List.getElem_mem hl3)
      obtain ⟨L, HL⟩ : ∃ L, Hid ((flS p).take k = L) := ⟨_, (rfl : _ = _)⟩
      have HTK : Hid ((flS p).take (k + 1) = L ++ [q]) := by
        show _ = _
        rw [List.take_succ_eq_append_getElem (by rw [hlen]; exact hlt), HL.out]
        congr 2
        rw [← HQ.out]; simp [flS]
      have HSZ : Hid (L.length ≤ 200) := by show _ ≤ _; rw [← HL.out, List.length_take, hlen]; have := HN.out; have := HN3.out; omega
      rw [HL.out] at hmf
      have HMF : Hid (Mf w.heap.size g hb mb fo fc sb sc p L wr) := hmf
      have HBL : Hid (Below w.heap.size w wr) := hbl
      have HSO : Hid (∀ W, Below w.heap.size w W → Calls Try.prog 27 #[.slice uo (p.follow[k]'hl3).length uc] W fun e w' => e = .returned (.agg #[.int .u64 (q.1.toNat : Int), .int .u64 (q.2.1.toNat : Int), .int .u64 (q.2.2.1.toNat : Int), .int .u64 (q.2.2.2.toNat : Int)]) ∧ Below W.heap.size W w') := fun W hW => by
        have := setOf_any _ _ W (HU.out.below hW) HIN.out
        rwa [HQ.out] at this
      obtain ⟨ul, HUL⟩ : ∃ z, Hid ((p.follow[k]'hl3).length = z) := ⟨(p.follow[k]'hl3).length, Eq.refl _⟩
      rw [HUL.out] at HSO y5
      have hk0 : (0 : Int) ≤ (k : Int) := by omega
      have hk1 : (k : Int) < (n3 : Int) := by omega
      clear hu1 hc9 hmf hbl HA hlen
      obtain ⟨w2, rfl⟩ : ∃ z, z = wr := ⟨_, rfl⟩
      go_upto_region 5 with fail
      clear y5
      refine wp_region_free mixed (fun a0 d a W => ∃ (gb : Nat) (gr : Nat) (cr : Nat) (x21 x22 x23 x24 x25 x26 x27 x28 x29 x30 x31 : Value), a = (((((((((((a0.put (some 21) x21).put (some 22) x22).put (some 23) x23).put (some 24) x24).put (some 25) x25).put (some 26) x26).put (some 27) x27).put (some 28) x28).put (some 29) x29).put (some 30) x30).put (some 31) x31) ∧ Hid (RNw w w2 w.heap.size g hb mb fo fc sb sc p L uo ul uc q gb gr cr d x21 x22 x23 x24 x25 x26 x27 x28 x29 x30 x31 W)) (by kernel_rfl) ⟨0, 0, 0, u21, u22, u23, u24, u25, u26, u27, u28, u29, u30, u31, by simp only [Act.put, List.setIfInBounds_toArray, List.set_cons_zero, List.set_cons_succ], ?_⟩ ?_ ?_
      · exact ⟨fun h => no_way h, fun h => no_way h, fun h => no_way h, fun h => no_way h, fun h => no_way h, fun h => no_way h, fun h => no_way h, fun h => no_way h, fun h => no_way h, fun h => no_way h, fun h => no_way h, fun _ => trivial, fun h => no_way h, fun h => no_way h, fun h => no_way h, fun h => no_way h, fun h => no_way h, HBL.out.drew, fun _ => HMF.out.drew, fun h => no_way h, fun h => no_way h, fun h => no_way h⟩
      · simp only [StepAll, and_true]
        refine ⟨?_, ?_, ?_, ?_, ?_, ?_, ?_, ?_, ?_, ?_, ?_, ?_⟩
        · intro d a W hI hd hdep
          obtain ⟨gb, gr, cr, x21, x22, x23, x24, x25, x26, x27, x28, x29, x30, x31, rfl, hF⟩ := hI
          clear hdep hd
          intro K hK
          simp only [Act.put, List.setIfInBounds_toArray, List.set_cons_zero, List.set_cons_succ]
          go_simp
          refine hK.out _ _ ⟨gb, gr, cr, (.pointer (some ⟨g, 0, none⟩)), x22, x23, x24, x25, x26, x27, x28, x29, x30, x31, by simp only [Act.put, List.setIfInBounds_toArray, List.set_cons_zero, List.set_cons_succ], ?_⟩
          exact ⟨fun _ => rfl, fun h => hF.out.f1 (by simpa using h), fun h => hF.out.f2 (by simpa using h), fun h => hF.out.f3 (by simpa using h), fun h => hF.out.f4 (by simpa using h), fun h => hF.out.f5 (by simpa using h), fun h => hF.out.f6 (by simpa using h), fun h => hF.out.f7 (by simpa using h), fun h => hF.out.f8 (by simpa using h), fun h => hF.out.f9 (by simpa using h), fun h => hF.out.f10 (by simpa using h), fun h => hF.out.f11 (by simpa using h), fun h => by have := hF.out.o8_4 (by simpa using h); simpa using this, fun h => by have := hF.out.o8_6 (by simpa using h); simpa using this, fun h => by have := hF.out.o8_7 (by simpa using h); simpa using this, fun h => by have := hF.out.q11_8 (by simpa using h); simpa using this, fun h => by have := hF.out.r7_6 (by simpa using h); simpa using this, hF.out.bl, fun h => hF.out.pm (by simpa using h), fun h h2 => hF.out.bs (by simpa using h) (by simpa using h2), fun h h2 => hF.out.th (by simpa using h) (by simpa using h2), fun h => hF.out.fin (by simpa using h)⟩
        · intro d a W hI hd hdep
          obtain ⟨gb, gr, cr, x21, x22, x23, x24, x25, x26, x27, x28, x29, x30, x31, rfl, hF⟩ := hI
          clear hdep hd
          intro K hK
          simp only [Act.put, List.setIfInBounds_toArray, List.set_cons_zero, List.set_cons_succ]
          go_simp
          refine hK.out _ _ ⟨gb, gr, cr, x21, (.pointer (some ⟨g, 0, none⟩)), x23, x24, x25, x26, x27, x28, x29, x30, x31, by simp only [Act.put, List.setIfInBounds_toArray, List.set_cons_zero, List.set_cons_succ], ?_⟩
          exact ⟨fun h => hF.out.f0 (by simpa using h), fun _ => rfl, fun h => hF.out.f2 (by simpa using h), fun h => hF.out.f3 (by simpa using h), fun h => hF.out.f4 (by simpa using h), fun h => hF.out.f5 (by simpa using h), fun h => hF.out.f6 (by simpa using h), fun h => hF.out.f7 (by simpa using h), fun h => hF.out.f8 (by simpa using h), fun h => hF.out.f9 (by simpa using h), fun h => hF.out.f10 (by simpa using h), fun h => hF.out.f11 (by simpa using h), fun h => by have := hF.out.o8_4 (by simpa using h); simpa using this, fun h => by have := hF.out.o8_6 (by simpa using h); simpa using this, fun h => by have := hF.out.o8_7 (by simpa using h); simpa using this, fun h => by have := hF.out.q11_8 (by simpa using h); simpa using this, fun h => by have := hF.out.r7_6 (by simpa using h); simpa using this, hF.out.bl, fun h => hF.out.pm (by simpa using h), fun h h2 => hF.out.bs (by simpa using h) (by simpa using h2), fun h h2 => hF.out.th (by simpa using h) (by simpa using h2), fun h => hF.out.fin (by simpa using h)⟩
        · intro d a W hI hd hdep
          obtain ⟨gb, gr, cr, x21, x22, x23, x24, x25, x26, x27, x28, x29, x30, x31, rfl, hF⟩ := hI
          have hd1 : d 1 = true := dep_of hdep 1 (by kernel_rfl)
          obtain rfl := hF.out.f1 hd1
          clear hdep hd hd1
          intro K hK
          simp only [Act.put, List.setIfInBounds_toArray, List.set_cons_zero, List.set_cons_succ]
          go_simp
          refine hK.out _ _ ⟨gb, gr, cr, x21, (.pointer (some ⟨g, 0, none⟩)), (.pointer (some ⟨g, 0, none⟩)), x24, x25, x26, x27, x28, x29, x30, x31, by simp only [Act.put, List.setIfInBounds_toArray, List.set_cons_zero, List.set_cons_succ], ?_⟩
          exact ⟨fun h => hF.out.f0 (by simpa using h), fun h => hF.out.f1 (by simpa using h), fun _ => rfl, fun h => hF.out.f3 (by simpa using h), fun h => hF.out.f4 (by simpa using h), fun h => hF.out.f5 (by simpa using h), fun h => hF.out.f6 (by simpa using h), fun h => hF.out.f7 (by simpa using h), fun h => hF.out.f8 (by simpa using h), fun h => hF.out.f9 (by simpa using h), fun h => hF.out.f10 (by simpa using h), fun h => hF.out.f11 (by simpa using h), fun h => by have := hF.out.o8_4 (by simpa using h); simpa using this, fun h => by have := hF.out.o8_6 (by simpa using h); simpa using this, fun h => by have := hF.out.o8_7 (by simpa using h); simpa using this, fun h => by have := hF.out.q11_8 (by simpa using h); simpa using this, fun h => by have := hF.out.r7_6 (by simpa using h); simpa using this, hF.out.bl, fun h => hF.out.pm (by simpa using h), fun h h2 => hF.out.bs (by simpa using h) (by simpa using h2), fun h h2 => hF.out.th (by simpa using h) (by simpa using h2), fun h => hF.out.fin (by simpa using h)⟩
        · intro d a W hI hd hdep
          obtain ⟨gb, gr, cr, x21, x22, x23, x24, x25, x26, x27, x28, x29, x30, x31, rfl, hF⟩ := hI
          have hd2 : d 2 = true := dep_of hdep 2 (by kernel_rfl)
          obtain rfl := hF.out.f2 hd2
          clear hdep hd hd2
          intro K hK
          simp only [Act.put, List.setIfInBounds_toArray, List.set_cons_zero, List.set_cons_succ]
          go_simp
          refine hK.out _ _ ⟨gb, gr, cr, x21, x22, (.pointer (some ⟨g, 0, none⟩)), (.pointer (some ⟨g, 1, none⟩)), x25, x26, x27, x28, x29, x30, x31, by simp only [Act.put, List.setIfInBounds_toArray, List.set_cons_zero, List.set_cons_succ], ?_⟩
          exact ⟨fun h => hF.out.f0 (by simpa using h), fun h => hF.out.f1 (by simpa using h), fun h => hF.out.f2 (by simpa using h), fun _ => rfl, fun h => hF.out.f4 (by simpa using h), fun h => hF.out.f5 (by simpa using h), fun h => hF.out.f6 (by simpa using h), fun h => hF.out.f7 (by simpa using h), fun h => hF.out.f8 (by simpa using h), fun h => hF.out.f9 (by simpa using h), fun h => hF.out.f10 (by simpa using h), fun h => hF.out.f11 (by simpa using h), fun h => by have := hF.out.o8_4 (by simpa using h); simpa using this, fun h => by have := hF.out.o8_6 (by simpa using h); simpa using this, fun h => by have := hF.out.o8_7 (by simpa using h); simpa using this, fun h => by have := hF.out.q11_8 (by simpa using h); simpa using this, fun h => by have := hF.out.r7_6 (by simpa using h); simpa using this, hF.out.bl, fun h => hF.out.pm (by simpa using h), fun h h2 => hF.out.bs (by simpa using h) (by simpa using h2), fun h h2 => hF.out.th (by simpa using h) (by simpa using h2), fun h => hF.out.fin (by simpa using h)⟩
        · intro d a W hI hd hdep
          obtain ⟨gb, gr, cr, x21, x22, x23, x24, x25, x26, x27, x28, x29, x30, x31, rfl, hF⟩ := hI
          have hd3 : d 3 = true := dep_of hdep 3 (by kernel_rfl)
          obtain rfl := hF.out.f3 hd3
          have HN8 : Hid (d 8 = false) := no_later hF.out.o8_4 hd
          have ya := (hF.out.pm HN8.out).bx.cell (i := 1) (by omega)
          simp only [mv] at ya
          clear hdep hd hd3
          intro K hK
          simp only [Act.put, List.setIfInBounds_toArray, List.set_cons_zero, List.set_cons_succ]
          go_simp
          refine hK.out _ _ ⟨gb, gr, cr, x21, x22, x23, (.pointer (some ⟨g, 1, none⟩)), (.slice fo L.length fc), x26, x27, x28, x29, x30, x31, by simp only [Act.put, List.setIfInBounds_toArray, List.set_cons_zero, List.set_cons_succ], ?_⟩
          exact ⟨fun h => hF.out.f0 (by simpa using h), fun h => hF.out.f1 (by simpa using h), fun h => hF.out.f2 (by simpa using h), fun h => hF.out.f3 (by simpa using h), fun _ => rfl, fun h => hF.out.f5 (by simpa using h), fun h => hF.out.f6 (by simpa using h), fun h => hF.out.f7 (by simpa using h), fun h => hF.out.f8 (by simpa using h), fun h => hF.out.f9 (by simpa using h), fun h => hF.out.f10 (by simpa using h), fun h => hF.out.f11 (by simpa using h), fun _ => by simp, fun h => by have := hF.out.o8_6 (by simpa using h); simpa using this, fun h => by have := hF.out.o8_7 (by simpa using h); simpa using this, fun h => by have := hF.out.q11_8 (by simpa using h); simpa using this, fun h => by have := hF.out.r7_6 (by simpa using h); simpa using this, hF.out.bl, fun h => hF.out.pm (by simpa using h), fun h h2 => hF.out.bs (by simpa using h) (by simpa using h2), fun h h2 => hF.out.th (by simpa using h) (by simpa using h2), fun h => hF.out.fin (by simpa using h)⟩
        · intro d a W hI hd hdep
          obtain ⟨gb, gr, cr, x21, x22, x23, x24, x25, x26, x27, x28, x29, x30, x31, rfl, hF⟩ := hI
          clear hdep hd
          intro K hK
          simp only [Act.put, List.setIfInBounds_toArray, List.set_cons_zero, List.set_cons_succ]
          go_simp
          refine hK.out _ _ ⟨gb, gr, cr, x21, x22, x23, x24, x25, (.slice uo ul uc), x27, x28, x29, x30, x31, by simp only [Act.put, List.setIfInBounds_toArray, List.set_cons_zero, List.set_cons_succ], ?_⟩
          exact ⟨fun h => hF.out.f0 (by simpa using h), fun h => hF.out.f1 (by simpa using h), fun h => hF.out.f2 (by simpa using h), fun h => hF.out.f3 (by simpa using h), fun h => hF.out.f4 (by simpa using h), fun _ => rfl, fun h => hF.out.f6 (by simpa using h), fun h => hF.out.f7 (by simpa using h), fun h => hF.out.f8 (by simpa using h), fun h => hF.out.f9 (by simpa using h), fun h => hF.out.f10 (by simpa using h), fun h => hF.out.f11 (by simpa using h), fun h => by have := hF.out.o8_4 (by simpa using h); simpa using this, fun h => by have := hF.out.o8_6 (by simpa using h); simpa using this, fun h => by have := hF.out.o8_7 (by simpa using h); simpa using this, fun h => by have := hF.out.q11_8 (by simpa using h); simpa using this, fun h => by have := hF.out.r7_6 (by simpa using h); simpa using this, hF.out.bl, fun h => hF.out.pm (by simpa using h), fun h h2 => hF.out.bs (by simpa using h) (by simpa using h2), fun h h2 => hF.out.th (by simpa using h) (by simpa using h2), fun h => hF.out.fin (by simpa using h)⟩
        · intro d a W hI hd hdep
          obtain ⟨gb, gr, cr, x21, x22, x23, x24, x25, x26, x27, x28, x29, x30, x31, rfl, hF⟩ := hI
          have hd5 : d 5 = true := dep_of hdep 5 (by kernel_rfl)
          obtain rfl := hF.out.f5 hd5
          have HN7 : Hid (d 7 = false) := no_later hF.out.r7_6 hd
          have HN8 : Hid (d 8 = false) := no_later hF.out.o8_6 hd
          have HN11 : Hid (d 11 = false) := no_later hF.out.q11_8 HN8.out
          have hpm := hF.out.pm HN8.out
          have hcl := HSO.out W hF.out.bl
          clear hdep hd hd5
          intro K hK
          simp only [Act.put, List.setIfInBounds_toArray, List.set_cons_zero, List.set_cons_succ]
          go_simp
          refine hcl.mono ?_
          rintro _ W1 ⟨rfl, hb1⟩
          clear hcl
          go_simp
          refine hK.out _ _ ⟨gb, gr, cr, x21, x22, x23, x24, x25, (.slice uo ul uc), (.agg #[.int .u64 (q.1.toNat : Int), .int .u64 (q.2.1.toNat : Int), .int .u64 (q.2.2.1.toNat : Int), .int .u64 (q.2.2.2.toNat : Int)]), x28, x29, x30, x31, by simp only [Act.put, List.setIfInBounds_toArray, List.set_cons_zero, List.set_cons_succ], ?_⟩
          exact ⟨fun h => hF.out.f0 (by simpa using h), fun h => hF.out.f1 (by simpa using h), fun h => hF.out.f2 (by simpa using h), fun h => hF.out.f3 (by simpa using h), fun h => hF.out.f4 (by simpa using h), fun h => hF.out.f5 (by simpa using h), fun _ => rfl, fun h => hF.out.f7 (by simpa using h), fun h => hF.out.f8 (by simpa using h), fun h => hF.out.f9 (by simpa using h), fun h => hF.out.f10 (by simpa using h), fun h => hF.out.f11 (by simpa using h), fun h => by have := hF.out.o8_4 (by simpa using h); simpa using this, fun _ => by simp, fun h => by have := hF.out.o8_7 (by simpa using h); simpa using this, fun h => by have := hF.out.q11_8 (by simpa using h); simpa using this, fun _ => by simp, hF.out.bl.trans (hb1.mono hF.out.bl.size), fun _ => hpm.next hb1, fun h _ => by have := HN7.out; simp [this] at h, fun h => by have := HN8.out; simp [this] at h, fun h => by have := HN11.out; simp [this] at h⟩
        · intro d a W hI hd hdep
          obtain ⟨gb, gr, cr, x21, x22, x23, x24, x25, x26, x27, x28, x29, x30, x31, rfl, hF⟩ := hI
          have hd6 : d 6 = true := dep_of hdep 6 (by kernel_rfl)
          obtain rfl := hF.out.f6 hd6
          have e7_6 := hd6
          have HN8 : Hid (d 8 = false) := no_later hF.out.o8_7 hd
          have HN11 : Hid (d 11 = false) := no_later hF.out.q11_8 HN8.out
          have hpm := hF.out.pm HN8.out
          clear hdep hd hd6
          intro K hK
          simp only [Act.put, List.setIfInBounds_toArray, List.set_cons_zero, List.set_cons_succ]
          go_simp
          refine hK.out _ _ ⟨W.heap.size, gr, cr, x21, x22, x23, x24, x25, x26, (.agg #[.int .u64 (q.1.toNat : Int), .int .u64 (q.2.1.toNat : Int), .int .u64 (q.2.2.1.toNat : Int), .int .u64 (q.2.2.2.toNat : Int)]), (.slice (some ⟨W.heap.size, 0, none⟩) 1 1), x29, x30, x31, by simp only [Act.put, List.setIfInBounds_toArray, List.set_cons_zero, List.set_cons_succ], ?_⟩
          have B1 := (Below.refl W.heap.size W).alloc (Nat.le_refl _) (Obj.cells #[.int .u64 (q.1.toNat : Int), .int .u64 (q.2.1.toNat : Int), .int .u64 (q.2.2.1.toNat : Int), .int .u64 (q.2.2.2.toNat : Int)] 74)
          exact ⟨fun h => hF.out.f0 (by simpa using h), fun h => hF.out.f1 (by simpa using h), fun h => hF.out.f2 (by simpa using h), fun h => hF.out.f3 (by simpa using h), fun h => hF.out.f4 (by simpa using h), fun h => hF.out.f5 (by simpa using h), fun h => hF.out.f6 (by simpa using h), fun _ => rfl, fun h => hF.out.f8 (by simpa using h), fun h => hF.out.f9 (by simpa using h), fun h => hF.out.f10 (by simpa using h), fun h => hF.out.f11 (by simpa using h), fun h => by have := hF.out.o8_4 (by simpa using h); simpa using this, fun h => by have := hF.out.o8_6 (by simpa using h); simpa using this, fun _ => by simp, fun h => by have := hF.out.q11_8 (by simpa using h); simpa using this, fun _ => by simpa using e7_6, hF.out.bl.trans (B1.mono hF.out.bl.size), fun _ => hpm.next B1, fun _ _ j u hj => by rw [cell_new W ([.int .u64 (q.1.toNat : Int), .int .u64 (q.2.1.toNat : Int), .int .u64 (q.2.2.1.toNat : Int), .int .u64 (q.2.2.2.toNat : Int)] : List Value) 74 j]; exact hj, fun h => by have := HN8.out; simp [this] at h, fun h => by have := HN11.out; simp [this] at h⟩
        · intro d a W hI hd hdep
          obtain ⟨gb, gr, cr, x21, x22, x23, x24, x25, x26, x27, x28, x29, x30, x31, rfl, hF⟩ := hI
          have hd4 : d 4 = true := dep_of hdep 4 (by kernel_rfl)
          have hd7 : d 7 = true := dep_of hdep 7 (by kernel_rfl)
          obtain rfl := hF.out.f4 hd4
          obtain rfl := hF.out.f7 hd7
          have hpm := hF.out.pm hd
          have HN11 : Hid (d 11 = false) := no_later hF.out.q11_8 hd
          have e8_4 := hd4
          have e8_7 := hd7
          have e8_6 := hF.out.r7_6 hd7
          have hbk := hF.out.bs hd7 hd
          have hm := run_append_lies (P := Try.prog) W 77 77 w.heap.size 74 i74 _ 4 32 Try.underlying77 H74.out.1 H74.out.2.1 H74.out.2.2.1 H74.out.2.2.2 rfl (by omega) (.slice fo L.length fc) L.length (clc L) hpm.fw ⟨gb, 0, none⟩ 1 1 [.int .u64 (q.1.toNat : Int), .int .u64 (q.2.1.toNat : Int), .int .u64 (q.2.2.1.toNat : Int), .int .u64 (q.2.2.2.toNat : Int)] rfl (fun j u hj => by rw [Addr.add_lit, Nat.zero_add]; exact hbk j u hj) (by intro u hu; simp at hu; rcases hu with rfl | rfl | rfl | rfl <;> rfl) (by omega) (by have := HSZ.out; unfold maxLen; omega) (by have := HSZ.out; omega) hpm.ge.2.2.2.2 W.heap.size rfl
          have hmm := hm.choose_spec.choose_spec.choose_spec
          generalize hm.choose_spec.choose_spec.choose = W1x at hmm
          generalize hm.choose_spec.choose = cr2 at hmm
          generalize hm.choose = gr2 at hmm
          have hrun := hmm.1
          have hgr := hpm.grow (c := q) (gr := gr2) (cr := cr2) hmm.2.2.1 (by rw [clc_snoc]; exact hmm.2.1) hmm.2.2.2.1
          have hbl2 : Below w.heap.size w W1x := hF.out.bl.grown hmm.2.2.1 hF.out.bl.size (fun k hk => (hpm.fw.lt k hk).1)
          have HM : Hid (W1x.rowIs g 80 4 (mv hb fo L.length fc sb 1 sc mb) ∧ (Mf w.heap.size g hb mb (some ⟨gr2, 0, none⟩) cr2 sb sc p (L ++ [q]) (W1x.setCell ⟨g, 1, none⟩ (.slice (some ⟨gr2, 0, none⟩) (L.length + 1) cr2)) ∧ Below w.heap.size w (W1x.setCell ⟨g, 1, none⟩ (.slice (some ⟨gr2, 0, none⟩) (L.length + 1) cr2))) ∧ Below w.heap.size w W1x) := ⟨hgr.1, ⟨hgr.2, hbl2.setCell hpm.ge.1 _⟩, hbl2⟩
          clear hmm hm hbk hpm hgr hbl2
          clear hdep hd hd4 hd7
          intro K hK
          refine step_call_append (sv := (.slice fo L.length fc)) (xv := .slice (some ⟨gb, 0, none⟩) 1 1) (v := (.slice (some ⟨gr2, 0, none⟩) (L.length + 1) cr2)) (W1 := W1x) (by rfl) _ _ 77 (by rfl) (by simp only [Act.put, List.setIfInBounds_toArray, List.set_cons_zero, List.set_cons_succ]; rfl) (by simp only [Act.put, List.setIfInBounds_toArray, List.set_cons_zero, List.set_cons_succ]; rfl) (by exact hrun) ?_
          simp only [Act.put, List.setIfInBounds_toArray, List.set_cons_zero, List.set_cons_succ]
          refine hK.out _ _ ⟨gb, gr2, cr2, x21, x22, x23, x24, (.slice fo L.length fc), x26, x27, (.slice (some ⟨gb, 0, none⟩) 1 1), (.slice (some ⟨gr2, 0, none⟩) (L.length + 1) cr2), x30, x31, by simp only [Act.put, List.setIfInBounds_toArray, List.set_cons_zero, List.set_cons_succ], ?_⟩
          exact ⟨fun h => hF.out.f0 (by simpa using h), fun h => hF.out.f1 (by simpa using h), fun h => hF.out.f2 (by simpa using h), fun h => hF.out.f3 (by simpa using h), fun h => hF.out.f4 (by simpa using h), fun h => hF.out.f5 (by simpa using h), fun h => hF.out.f6 (by simpa using h), fun h => hF.out.f7 (by simpa using h), fun _ => rfl, fun h => hF.out.f9 (by simpa using h), fun h => hF.out.f10 (by simpa using h), fun h => hF.out.f11 (by simpa using h), fun _ => by simpa using e8_4, fun _ => by simpa using e8_6, fun _ => by simpa using e8_7, fun _ => by simp, fun h => by have := hF.out.r7_6 (by simpa using h); simpa using this, HM.out.2.2, fun h => by simp at h, fun _ h => by simp at h, fun _ _ => ⟨HM.out.1, HM.out.2.1⟩, fun h => by have := HN11.out; simp [this] at h⟩
        · intro d a W hI hd hdep
          obtain ⟨gb, gr, cr, x21, x22, x23, x24, x25, x26, x27, x28, x29, x30, x31, rfl, hF⟩ := hI
          have hd0 : d 0 = true := dep_of hdep 0 (by kernel_rfl)
          obtain rfl := hF.out.f0 hd0
          clear hdep hd hd0
          intro K hK
          simp only [Act.put, List.setIfInBounds_toArray, List.set_cons_zero, List.set_cons_succ]
          go_simp
          refine hK.out _ _ ⟨gb, gr, cr, (.pointer (some ⟨g, 0, none⟩)), x22, x23, x24, x25, x26, x27, x28, x29, (.pointer (some ⟨g, 0, none⟩)), x31, by simp only [Act.put, List.setIfInBounds_toArray, List.set_cons_zero, List.set_cons_succ], ?_⟩
          exact ⟨fun h => hF.out.f0 (by simpa using h), fun h => hF.out.f1 (by simpa using h), fun h => hF.out.f2 (by simpa using h), fun h => hF.out.f3 (by simpa using h), fun h => hF.out.f4 (by simpa using h), fun h => hF.out.f5 (by simpa using h), fun h => hF.out.f6 (by simpa using h), fun h => hF.out.f7 (by simpa using h), fun h => hF.out.f8 (by simpa using h), fun _ => rfl, fun h => hF.out.f10 (by simpa using h), fun h => hF.out.f11 (by simpa using h), fun h => by have := hF.out.o8_4 (by simpa using h); simpa using this, fun h => by have := hF.out.o8_6 (by simpa using h); simpa using this, fun h => by have := hF.out.o8_7 (by simpa using h); simpa using this, fun h => by have := hF.out.q11_8 (by simpa using h); simpa using this, fun h => by have := hF.out.r7_6 (by simpa using h); simpa using this, hF.out.bl, fun h => hF.out.pm (by simpa using h), fun h h2 => hF.out.bs (by simpa using h) (by simpa using h2), fun h h2 => hF.out.th (by simpa using h) (by simpa using h2), fun h => hF.out.fin (by simpa using h)⟩
        · intro d a W hI hd hdep
          obtain ⟨gb, gr, cr, x21, x22, x23, x24, x25, x26, x27, x28, x29, x30, x31, rfl, hF⟩ := hI
          have hd9 : d 9 = true := dep_of hdep 9 (by kernel_rfl)
          obtain rfl := hF.out.f9 hd9
          clear hdep hd hd9
          intro K hK
          simp only [Act.put, List.setIfInBounds_toArray, List.set_cons_zero, List.set_cons_succ]
          go_simp
          refine hK.out _ _ ⟨gb, gr, cr, x21, x22, x23, x24, x25, x26, x27, x28, x29, (.pointer (some ⟨g, 0, none⟩)), (.pointer (some ⟨g, 1, none⟩)), by simp only [Act.put, List.setIfInBounds_toArray, List.set_cons_zero, List.set_cons_succ], ?_⟩
          exact ⟨fun h => hF.out.f0 (by simpa using h), fun h => hF.out.f1 (by simpa using h), fun h => hF.out.f2 (by simpa using h), fun h => hF.out.f3 (by simpa using h), fun h => hF.out.f4 (by simpa using h), fun h => hF.out.f5 (by simpa using h), fun h => hF.out.f6 (by simpa using h), fun h => hF.out.f7 (by simpa using h), fun h => hF.out.f8 (by simpa using h), fun h => hF.out.f9 (by simpa using h), fun _ => rfl, fun h => hF.out.f11 (by simpa using h), fun h => by have := hF.out.o8_4 (by simpa using h); simpa using this, fun h => by have := hF.out.o8_6 (by simpa using h); simpa using this, fun h => by have := hF.out.o8_7 (by simpa using h); simpa using this, fun h => by have := hF.out.q11_8 (by simpa using h); simpa using this, fun h => by have := hF.out.r7_6 (by simpa using h); simpa using this, hF.out.bl, fun h => hF.out.pm (by simpa using h), fun h h2 => hF.out.bs (by simpa using h) (by simpa using h2), fun h h2 => hF.out.th (by simpa using h) (by simpa using h2), fun h => hF.out.fin (by simpa using h)⟩
        · intro d a W hI hd hdep
          obtain ⟨gb, gr, cr, x21, x22, x23, x24, x25, x26, x27, x28, x29, x30, x31, rfl, hF⟩ := hI
          have hd10 : d 10 = true := dep_of hdep 10 (by kernel_rfl)
          have hd8 : d 8 = true := dep_of hdep 8 (by kernel_rfl)
          obtain rfl := hF.out.f10 hd10
          obtain rfl := hF.out.f8 hd8
          have e11_8 := hd8
          have hth := hF.out.th hd8 hd
          have ya := hth.1.cell (i := 1) (by omega)
          simp only [mv] at ya
          have yb := hth.1.frozen 1
          have HTH : Hid _ := hth.2
          clear hth
          clear hdep hd hd10 hd8
          intro K hK
          simp only [Act.put, List.setIfInBounds_toArray, List.set_cons_zero, List.set_cons_succ]
          go_simp
          refine hK.out _ _ ⟨gb, gr, cr, x21, x22, x23, x24, x25, x26, x27, x28, (.slice (some ⟨gr, 0, none⟩) (L.length + 1) cr), x30, (.pointer (some ⟨g, 1, none⟩)), by simp only [Act.put, List.setIfInBounds_toArray, List.set_cons_zero, List.set_cons_succ], ?_⟩
          exact ⟨fun h => hF.out.f0 (by simpa using h), fun h => hF.out.f1 (by simpa using h), fun h => hF.out.f2 (by simpa using h), fun h => hF.out.f3 (by simpa using h), fun h => hF.out.f4 (by simpa using h), fun h => hF.out.f5 (by simpa using h), fun h => hF.out.f6 (by simpa using h), fun h => hF.out.f7 (by simpa using h), fun h => hF.out.f8 (by simpa using h), fun h => hF.out.f9 (by simpa using h), fun h => hF.out.f10 (by simpa using h), fun _ => trivial, fun h => by have := hF.out.o8_4 (by simpa using h); simpa using this, fun h => by have := hF.out.o8_6 (by simpa using h); simpa using this, fun h => by have := hF.out.o8_7 (by simpa using h); simpa using this, fun _ => by simpa using e11_8, fun h => by have := hF.out.r7_6 (by simpa using h); simpa using this, HTH.out.2, fun h => by have := e11_8; simp [this] at h, fun _ h => by have := e11_8; simp [this] at h, fun _ h => by simp at h, fun _ => HTH.out⟩
      · intro d a W hI hall
        obtain ⟨gb, gr, cr, x21, x22, x23, x24, x25, x26, x27, x28, x29, x30, x31, rfl, hF⟩ := hI
        simp only [List.length_cons, List.length_nil] at hall
        obtain rfl := hF.out.f0 (hall 0 (by omega))
        obtain rfl := hF.out.f1 (hall 1 (by omega))
        obtain rfl := hF.out.f2 (hall 2 (by omega))
        obtain rfl := hF.out.f3 (hall 3 (by omega))
        obtain rfl := hF.out.f4 (hall 4 (by omega))
        obtain rfl := hF.out.f5 (hall 5 (by omega))
        obtain rfl := hF.out.f6 (hall 6 (by omega))
        obtain rfl := hF.out.f7 (hall 7 (by omega))
        obtain rfl := hF.out.f8 (hall 8 (by omega))
        obtain rfl := hF.out.f9 (hall 9 (by omega))
        obtain rfl := hF.out.f10 (hall 10 (by omega))
        have hfin := hF.out.fin (hall 11 (by omega))
        have HNX : Hid (∃ fo fc, Mf w.heap.size g hb mb fo fc sb sc p ((flS p).take (k + 1)) W ∧ Below w.heap.size w W) := ⟨_, _, by rw [HTK.out]; exact hfin.1, hfin.2⟩
        clear hF hall hfin
        simp only [Act.put, List.setIfInBounds_toArray, List.set_cons_zero, List.set_cons_succ]
        go_wp2_with fail
        go_roundw
        case rel => exact ⟨k + 1, by omega, by go_num, HNX⟩
        case measure => simp [intOf]; omega
    · obtain rfl : k = n3 := by omega
      have HF : Hid (Mf w.heap.size g hb mb fo fc sb sc p (flS p) wr) := by rwa [List.take_of_length_le (by omega)] at hmf
      have HBL : Hid (Below w.heap.size w wr) := hbl
      clear HA hmf hbl hlen
      go_wp2_with fail
      go_ret
      exact ⟨g, hb, mb, fo, fc, sb, sc, rfl, HF.out.ma, HBL.out⟩
end Go.Proofs.Ytlmlkpdppkgenaa
