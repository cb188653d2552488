/-
  pushkeep.two. The three rules of pushkeep.abc, and their automaton, reckoned. The contract of pushkeep.abc.
-/
import Derived.Test.YtlmlkpdppkgenaaMxL
import Derived.Test.YtlmlkpdppkgenaaWMae
import Derived.Test.YtlmlkpdppkgenaaWKc
namespace Go.Proofs.Ytlmlkpdppkgenaa
open Go.RowKit
open Cls Rex

set_option maxHeartbeats 4000000 in
set_option maxRecDepth 20000 in
theorem two_any (kd : Int) (hkd : -9223372036854775808 ≤ kd ∧ kd ≤ 9223372036854775807) (s t : T) (v u : Value) (B : Nat) (w : World) (hx : Rx w B v s) (hy : Rx w B u t) (hBw : B ≤ w.heap.size) :
    Calls Try.prog 44 #[.int .i64 kd, v, u] w fun e' w' => ∃ v', e' = .returned v' ∧ Rx w' w'.heap.size v' (.mk kd empty [s, t]) ∧ Below w.heap.size w w' := by
  obtain ⟨k0, c0, a0, p0, kids0, vals0, rfl, _⟩ := hx.shape
  obtain ⟨k1, c1, a1, p1, kids1, vals1, rfl, _⟩ := hy.shape
  obtain ⟨n0, HN0⟩ : ∃ n, Hid (kids0.length = n) := ⟨_, (rfl : kids0.length = kids0.length)⟩
  obtain ⟨n1, HN1⟩ : ∃ n, Hid (kids1.length = n) := ⟨_, (rfl : kids1.length = kids1.length)⟩
  rw [HN0.out] at hx ⊢
  rw [HN1.out] at hy ⊢
  have HX : Hid (Rx w B (.agg #[.int .i64 k0, .int .u64 (c0.1.toNat : Int), .int .u64 (c0.2.1.toNat : Int), .int .u64 (c0.2.2.1.toNat : Int), .int .u64 (c0.2.2.2.toNat : Int), .slice a0 n0 p0]) s ∧ Rx w B (.agg #[.int .i64 k1, .int .u64 (c1.1.toNat : Int), .int .u64 (c1.2.1.toNat : Int), .int .u64 (c1.2.2.1.toNat : Int), .int .u64 (c1.2.2.2.toNat : Int), .slice a1 n1 p1]) t) := ⟨hx, hy⟩
  clear hx hy
  go_enter Try.func44, Try.ntmps44
  go_wp2_with fail
  have hz := block_new (((w.alloc (.cells #[.int .i64 k0, .int .u64 (c0.1.toNat : Int), .int .u64 (c0.2.1.toNat : Int), .int .u64 (c0.2.2.1.toNat : Int), .int .u64 (c0.2.2.2.toNat : Int), .slice a0 n0 p0] 44)).alloc (.cells #[.int .i64 k1, .int .u64 (c1.1.toNat : Int), .int .u64 (c1.2.1.toNat : Int), .int .u64 (c1.2.2.1.toNat : Int), .int .u64 (c1.2.2.2.toNat : Int), .slice a1 n1 p1] 44)).alloc (.cells #[.int .i64 kd, .int .u64 0, .int .u64 0, .int .u64 0, .int .u64 0, .slice (some ⟨w.heap.size + 1 + 1 + 1, 0, none⟩) 2 2] 44)) (.cells #[.int .i64 k0, .int .u64 (c0.1.toNat : Int), .int .u64 (c0.2.1.toNat : Int), .int .u64 (c0.2.2.1.toNat : Int), .int .u64 (c0.2.2.2.toNat : Int), .slice a0 n0 p0, .int .i64 k1, .int .u64 (c1.1.toNat : Int), .int .u64 (c1.2.1.toNat : Int), .int .u64 (c1.2.2.1.toNat : Int), .int .u64 (c1.2.2.2.toNat : Int), .slice a1 n1 p1] 44)
  have hB : Below w.heap.size w ((((w.alloc (.cells #[.int .i64 k0, .int .u64 (c0.1.toNat : Int), .int .u64 (c0.2.1.toNat : Int), .int .u64 (c0.2.2.1.toNat : Int), .int .u64 (c0.2.2.2.toNat : Int), .slice a0 n0 p0] 44)).alloc (.cells #[.int .i64 k1, .int .u64 (c1.1.toNat : Int), .int .u64 (c1.2.1.toNat : Int), .int .u64 (c1.2.2.1.toNat : Int), .int .u64 (c1.2.2.2.toNat : Int), .slice a1 n1 p1] 44)).alloc (.cells #[.int .i64 kd, .int .u64 0, .int .u64 0, .int .u64 0, .int .u64 0, .slice (some ⟨w.heap.size + 1 + 1 + 1, 0, none⟩) 2 2] 44)).alloc (.cells #[.int .i64 k0, .int .u64 (c0.1.toNat : Int), .int .u64 (c0.2.1.toNat : Int), .int .u64 (c0.2.2.1.toNat : Int), .int .u64 (c0.2.2.2.toNat : Int), .slice a0 n0 p0, .int .i64 k1, .int .u64 (c1.1.toNat : Int), .int .u64 (c1.2.1.toNat : Int), .int .u64 (c1.2.2.1.toNat : Int), .int .u64 (c1.2.2.2.toNat : Int), .slice a1 n1 p1] 44)) := ((((Below.refl _ w).alloc (Nat.le_refl _) _).alloc (by simp) _).alloc (by simp; omega) _).alloc (by simp; omega) _
  have e : (((w.alloc (.cells #[.int .i64 k0, .int .u64 (c0.1.toNat : Int), .int .u64 (c0.2.1.toNat : Int), .int .u64 (c0.2.2.1.toNat : Int), .int .u64 (c0.2.2.2.toNat : Int), .slice a0 n0 p0] 44)).alloc (.cells #[.int .i64 k1, .int .u64 (c1.1.toNat : Int), .int .u64 (c1.2.1.toNat : Int), .int .u64 (c1.2.2.1.toNat : Int), .int .u64 (c1.2.2.2.toNat : Int), .slice a1 n1 p1] 44)).alloc (.cells #[.int .i64 kd, .int .u64 0, .int .u64 0, .int .u64 0, .int .u64 0, .slice (some ⟨w.heap.size + 1 + 1 + 1, 0, none⟩) 2 2] 44)).heap.size = w.heap.size + 1 + 1 + 1 := by simp
  rw [e] at hz
  refine bodyPost_ret (v := .agg #[.int .i64 kd, .int .u64 0, .int .u64 0, .int .u64 0, .int .u64 0, .slice (some ⟨w.heap.size + 1 + 1 + 1, 0, none⟩) 2 2]) (by simp [results, Try.results44, go_sem]) rfl ⟨_, rfl, ?_, hB⟩
  refine Rx.mk kd empty (some ⟨w.heap.size + 1 + 1 + 1, 0, none⟩) 2 [s, t] (fun i => if i = 0 then .agg #[.int .i64 k0, .int .u64 (c0.1.toNat : Int), .int .u64 (c0.2.1.toNat : Int), .int .u64 (c0.2.2.1.toNat : Int), .int .u64 (c0.2.2.2.toNat : Int), .slice a0 n0 p0] else .agg #[.int .i64 k1, .int .u64 (c1.1.toNat : Int), .int .u64 (c1.2.1.toNat : Int), .int .u64 (c1.2.2.1.toNat : Int), .int .u64 (c1.2.2.2.toNat : Int), .slice a1 n1 p1]) hkd (by simp) (Or.inr ⟨w.heap.size + 1 + 1 + 1, 0, rfl, blk_lt hz, ?_⟩) ?_
  · intro i hi j hj
    have hi' : i = 0 ∨ i = 1 := by simp at hi; omega
    rw [cell_of_row _ _ _ _ 44 (0, 0) hz]
    rcases hi' with rfl | rfl <;> (rcases (show j = 0 ∨ j = 1 ∨ j = 2 ∨ j = 3 ∨ j = 4 ∨ j = 5 by omega) with rfl | rfl | rfl | rfl | rfl | rfl <;> rfl)
  · intro i hi
    have hi' : i = 0 ∨ i = 1 := by simp at hi; omega
    rcases hi' with rfl | rfl
    · exact (HX.out.1.next (hB.mono hBw)).wide (Nat.le_trans hBw hB.size)
    · exact (HX.out.2.next (hB.mono hBw)).wide (Nat.le_trans hBw hB.size)
end Go.Proofs.Ytlmlkpdppkgenaa

namespace Go.Proofs.Ytlmlkpdppkgenaa
open Go.RowKit
open Cls Po Rex Dm

def abT : List T := [.mk 3 (range 97 97) [], .mk 4 empty [.mk 3 (range 97 97) [], .mk 3 (range 98 98) []], .mk 4 empty [.mk 3 (range 32 32) [], .mk 6 empty [.mk 3 (range 32 32) []]]]
def abX : List Rex.E := [.byte (range 97 97), .cat (.byte (range 97 97)) (.byte (range 98 98)), .cat (.byte (range 32 32)) (.star (.byte (range 32 32)))]
theorem ab_rts : Pm.Rts abT abX := ⟨rfl, fun i hi hi2 => by
  have : i = 0 ∨ i = 1 ∨ i = 2 := by simp [abT] at hi; omega
  rcases this with rfl | rfl | rfl
  · exact .byte (by decide)
  · exact .cat (.byte (by decide)) (.byte (by decide))
  · exact .cat (.byte (by decide)) (.star (.byte (by decide))), fun x hx => by
  simp only [abX, List.mem_cons, List.not_mem_nil, or_false] at hx
  rcases hx with rfl | rfl | rfl <;> simp [Rex.E.nodes]⟩
theorem ab_ans : mkAns abT abX = 0 := by decide +kernel
def abP : P := posX abX
theorem ab_facts : (G abP 1).length = 3 ∧ (G abP 2).length = 4 ∧ (G abP 3).length = 5 ∧ (G abP 4).length = 5 ∧ (G abP 5).length = 5 := by decide +kernel
theorem ab_end : Dm.End abP 5 := by
  obtain ⟨f1, f2, f3, f4, f5⟩ := ab_facts
  refine ⟨⟨by omega, fun j hj => ?_⟩, Or.inr f5⟩
  have : j = 0 ∨ j = 1 ∨ j = 2 ∨ j = 3 ∨ j = 4 := by omega
  rcases this with rfl | rfl | rfl | rfl | rfl
  · exact ⟨G_pos _ 0, fun h => by omega⟩
  · exact ⟨by omega, fun _ => by omega⟩
  · exact ⟨by omega, fun _ => by omega⟩
  · exact ⟨by omega, fun _ => by omega⟩
  · exact ⟨by omega, fun _ => by omega⟩
def abR : Nat → Nat → Int := rowF abP (G abP 5)
def abG : Nat → Int := tagF abP (G abP 5)
theorem made_abc (v : Value) (w : World) (ht : Rxs w w.heap.size v abT) : Calls Try.prog 13 #[v] w fun e w' => ∃ rb rc tb tc, e = .returned (.tuple #[.agg #[.slice (some ⟨rb, 0, none⟩) 5 rc, .slice (some ⟨tb, 0, none⟩) 5 tc], .bool true]) ∧ Df.Rw w' (.slice (some ⟨rb, 0, none⟩) 5 rc) 5 abR ∧ Df.Ts w' (.slice (some ⟨tb, 0, none⟩) 5 tc) 5 abG ∧ All abP 5 ∧ Below w.heap.size w w' := by
  refine (made_any v _ abX w ht (fun _ => ab_rts)).mono fun e w' h => ?_
  obtain ⟨hb, ⟨-, h | ⟨k, h1, h2⟩⟩ | ⟨-, k, rb, rc, tb, tc, hall, hk, rfl, hrw, hts⟩⟩ := h
  · exact absurd ab_ans h
  · have := end_one h1 ab_end
    subst this
    have := ab_facts.2.2.2.2
    have h3 : 200 < (G abP 5).length := h2
    omega
  · have := end_one ⟨hall.far, Or.inr hall.len⟩ ab_end
    subst this
    exact ⟨rb, rc, tb, tc, rfl, hrw, hts, hall, hb⟩
theorem rxs_three (w : World) (B : Nat) (k0 k1 k2 : Int) (c0 c1 c2 : Cl) (a0 a1 a2 : Option Addr) (n0 n1 n2 p0 p1 p2 : Nat) (t0 t1 t2 : T) (h0 : Rx w B (.agg #[.int .i64 k0, .int .u64 (c0.1.toNat : Int), .int .u64 (c0.2.1.toNat : Int), .int .u64 (c0.2.2.1.toNat : Int), .int .u64 (c0.2.2.2.toNat : Int), .slice a0 n0 p0]) t0) (h1 : Rx w B (.agg #[.int .i64 k1, .int .u64 (c1.1.toNat : Int), .int .u64 (c1.2.1.toNat : Int), .int .u64 (c1.2.2.1.toNat : Int), .int .u64 (c1.2.2.2.toNat : Int), .slice a1 n1 p1]) t1) (h2 : Rx w B (.agg #[.int .i64 k2, .int .u64 (c2.1.toNat : Int), .int .u64 (c2.2.1.toNat : Int), .int .u64 (c2.2.2.1.toNat : Int), .int .u64 (c2.2.2.2.toNat : Int), .slice a2 n2 p2]) t2) (hB : B ≤ w.heap.size) :
    Rxs (w.alloc (.cells #[.int .i64 k0, .int .u64 (c0.1.toNat : Int), .int .u64 (c0.2.1.toNat : Int), .int .u64 (c0.2.2.1.toNat : Int), .int .u64 (c0.2.2.2.toNat : Int), .slice a0 n0 p0, .int .i64 k1, .int .u64 (c1.1.toNat : Int), .int .u64 (c1.2.1.toNat : Int), .int .u64 (c1.2.2.1.toNat : Int), .int .u64 (c1.2.2.2.toNat : Int), .slice a1 n1 p1, .int .i64 k2, .int .u64 (c2.1.toNat : Int), .int .u64 (c2.2.1.toNat : Int), .int .u64 (c2.2.2.1.toNat : Int), .int .u64 (c2.2.2.2.toNat : Int), .slice a2 n2 p2] 44)) (w.heap.size + 1) (.slice (some ⟨w.heap.size, 0, none⟩) 3 3) [t0, t1, t2] := by
  refine ⟨_, 3, fun i => if i = 0 then (.agg #[.int .i64 k0, .int .u64 (c0.1.toNat : Int), .int .u64 (c0.2.1.toNat : Int), .int .u64 (c0.2.2.1.toNat : Int), .int .u64 (c0.2.2.2.toNat : Int), .slice a0 n0 p0]) else if i = 1 then (.agg #[.int .i64 k1, .int .u64 (c1.1.toNat : Int), .int .u64 (c1.2.1.toNat : Int), .int .u64 (c1.2.2.1.toNat : Int), .int .u64 (c1.2.2.2.toNat : Int), .slice a1 n1 p1]) else (.agg #[.int .i64 k2, .int .u64 (c2.1.toNat : Int), .int .u64 (c2.2.1.toNat : Int), .int .u64 (c2.2.2.1.toNat : Int), .int .u64 (c2.2.2.2.toNat : Int), .slice a2 n2 p2]), rfl, by simp, Or.inr ⟨w.heap.size, 0, rfl, by omega, fun i hi j hj => ?_⟩, fun i hi => ?_⟩
  · have h9 : i = 0 ∨ i = 1 ∨ i = 2 := by simp at hi; omega
    have : j = 0 ∨ j = 1 ∨ j = 2 ∨ j = 3 ∨ j = 4 ∨ j = 5 := by omega
    rcases h9 with rfl | rfl | rfl <;> (rcases this with rfl | rfl | rfl | rfl | rfl | rfl <;> simp [Value.cells])
  · have h9 : i = 0 ∨ i = 1 ∨ i = 2 := by simp at hi; omega
    rcases h9 with rfl | rfl | rfl
    · exact (h0.next ((below_alloc1 w _).mono hB)).wide (by omega)
    · exact (h1.next ((below_alloc1 w _).mono hB)).wide (by omega)
    · exact (h2.next ((below_alloc1 w _).mono hB)).wide (by omega)
end Go.Proofs.Ytlmlkpdppkgenaa

namespace Go.Proofs.Ytlmlkpdppkgenaa
open Go.RowKit
open Cls Po Rex Dm

theorem rw_pk {w : World} {v : Value} {n : Nat} {R : Nat → Nat → Int} (h : Df.Rw w v n R) : Pk.Rw w v n R := h
theorem ts_pk {w : World} {v : Value} {n : Nat} {T : Nat → Int} (h : Df.Ts w v n T) : Pk.Ts w v n T := h
theorem chk_pk {n : Nat} {R : Nat → Nat → Int} {T : Nat → Int} (h : Df.Dfa.chk n n R T = 0) : Pk.Dfa.chk n n R T = 0 := h
theorem ts_off {W W' : World} {v : Value} {n g : Nat} {T : Nat → Int} (h : Pk.Ts W v n T) (hs : W.heap.size ≤ W'.heap.size) (he : ∀ k, k < W.heap.size → k ≠ g → W'.heap[k]? = W.heap[k]?) (hv : ∀ b o m c, v = .slice (some ⟨b, o, none⟩) m c → b ≠ g) : Pk.Ts W' v n T := by
  obtain ⟨ao, cap, rfl, hm, hw, h | ⟨b, o, rfl, h2, h3⟩⟩ := h
  · exact ⟨ao, cap, rfl, hm, hw, Or.inl h⟩
  · exact ⟨_, cap, rfl, hm, hw, Or.inr ⟨b, o, rfl, Nat.lt_of_lt_of_le h2 hs, fun i hi => by
      have := he b h2 (hv _ _ _ _ rfl)
      rw [← h3 i hi]
      simp [World.cell?, this]⟩⟩
theorem nx_off {W W' : World} {nv tv : Value} {B n m g : Nat} {L : Nat → Nat} {X : Nat → Nat → Int} {T : Nat → Int} (hp : Pk.Pow B n m nv tv W) (hg : g < B) (hx : Pk.Nx W nv n L X) (ht : Pk.Ts W tv n T) (hs : W.heap.size ≤ W'.heap.size) (he : ∀ k, k < W.heap.size → k ≠ g → W'.heap[k]? = W.heap[k]?) : Pk.Nx W' nv n L X ∧ Pk.Ts W' tv n T := by
  obtain ⟨B', gN, V, gt, ct, X', T', rfl, rfl, hn, h1, h2, -⟩ := hp
  refine ⟨?_, ts_off ht hs he fun b o m c e => by cases e; omega⟩
  obtain ⟨ao, cap, e, hm, h | ⟨b, o, rfl, h3, h4⟩⟩ := hx
  · exact ⟨ao, cap, e, hm, Or.inl h⟩
  · cases e
    refine ⟨_, n, rfl, hm, Or.inr ⟨gN, 0, rfl, Nat.lt_of_lt_of_le h3 hs, fun i hi => ?_⟩⟩
    obtain ⟨u, h5, h6⟩ := h4 i hi
    have h7 : u = V i := by
      have h8 := hn.top.cell hi
      rw [Nat.zero_add] at h5
      rw [h5] at h8
      exact Option.some.inj h8
    refine ⟨u, ?_, ts_off h6 hs he fun b o m c e => ?_⟩
    · rw [← h5]; simp [World.cell?, he gN h3 (by omega)]
    · rw [h7] at e
      have := hn.lt
      rcases (hn.own i hi).2 with ⟨h8, -⟩ | ⟨g', cap', cur, h8, h9, -⟩
      · rw [h8] at e; cases e
      · rw [h8] at e; cases e; omega
/-- What abc leaves. -/
def AbP (w : World) (e : Ending) (w' : World) : Prop := ∃ nv tv, e = .returned (.agg (Pk.pl (Pk.ofp 5 abR) nv tv).toArray) ∧ Pk.Nx w' nv 5 (fun _ => (Pk.fsts 5 abR 256).length) (fun i t => abR i ((Pk.fsts 5 abR 256).getD t 0)) ∧ Pk.Ts w' tv 5 abG ∧ Pk.Dfa.chk 5 5 abR abG = 0 ∧ Below w.heap.size w w'
set_option maxHeartbeats 16000000 in
set_option maxRecDepth 20000 in
theorem abc_any (w : World) : Calls Try.prog 19 #[] w fun e w' => AbP w e w' := by
  obtain ⟨zs, hz54, hzs, -⟩ := Pk.zero47
  have HZS : Hid (zs.size = 258) := hzs
  obtain ⟨w0, HW0⟩ : ∃ z, Hid (w.alloc (Obj.cells zs 54) = z) := ⟨_, (rfl : _ = _)⟩
  obtain ⟨g0, HG0⟩ : ∃ z, Hid (w.heap.size = z) := ⟨_, (rfl : _ = _)⟩
  have HB0 : Hid (Below w.heap.size w w0 ∧ w0.rowIs g0 54 258 (fun i => zs.getD i undef) ∧ w0.heap.size = g0 + 1) := by
    rw [← HW0.out, ← HG0.out]
    have h1 := World.rowIs_alloc w zs 54 (fun i => zs.getD i undef) (fun i hi => by simp [hi])
    rw [hzs] at h1
    exact ⟨(Below.refl _ _).alloc (Nat.le_refl _) _, h1, by simp⟩
  clear hzs
  have h1 := letter_any 97 (by omega) (by omega) w0
  go_enter Try.func19, Try.ntmps19
  go_upto_region 1 with fail
  rw [HW0.out, HG0.out]
  clear HW0
  go_wp2_with fail
  refine h1.mono ?_
  rintro _ w1 ⟨v0, rfl, hx0, hb1⟩
  clear h1
  obtain ⟨k0, c0, a0, p0, kids0, vals0, rfl, -, -⟩ := hx0.shape
  obtain ⟨n0, HN0⟩ : ∃ q, Hid (kids0.length = q) := ⟨_, (rfl : _ = _)⟩
  rw [HN0.out] at hx0 ⊢
  have h1 := letter_any 97 (by omega) (by omega) w1
  go_wp2_with fail
  refine h1.mono ?_
  rintro _ w2 ⟨v2, rfl, hx2, hb2⟩
  have hx0b := (hx0.next hb2).wide hb2.size
  have hb := hb1.trans (hb2.mono hb1.size)
  clear h1 hx0 hb1 hb2
  have h1 := letter_any 98 (by omega) (by omega) w2
  go_wp2_with fail
  refine h1.mono ?_
  rintro _ w3 ⟨v3, rfl, hx3, hb3⟩
  have hx0 := (hx0b.next hb3).wide hb3.size
  have hx2b := (hx2.next hb3).wide hb3.size
  have hb1 := hb.trans (hb3.mono hb.size)
  clear h1 hx0b hx2 hb hb3
  have h1 := two_any 4 (by omega) _ _ v2 v3 w3.heap.size w3 hx2b hx3 (Nat.le_refl _)
  go_wp2_with fail
  refine h1.mono ?_
  rintro _ w4 ⟨v4, rfl, hx1, hb4⟩
  have hx0b := (hx0.next hb4).wide hb4.size
  have hb := hb1.trans (hb4.mono hb1.size)
  clear h1 hx0 hx2b hx3 hb1 hb4
  obtain ⟨k1, c1, a1, p1, kids1, vals1, rfl, -, -⟩ := hx1.shape
  obtain ⟨n1, HN1⟩ : ∃ q, Hid (kids1.length = q) := ⟨_, (rfl : _ = _)⟩
  rw [HN1.out] at hx1 ⊢
  have h1 := letter_any 32 (by omega) (by omega) w4
  go_wp2_with fail
  refine h1.mono ?_
  rintro _ w5 ⟨v5, rfl, hx5, hb5⟩
  have hx0 := (hx0b.next hb5).wide hb5.size
  have hx1b := (hx1.next hb5).wide hb5.size
  have hb1 := hb.trans (hb5.mono hb.size)
  clear h1 hx0b hx1 hb hb5
  have h1 := letter_any 32 (by omega) (by omega) w5
  go_wp2_with fail
  refine h1.mono ?_
  rintro _ w6 ⟨v6, rfl, hx6, hb6⟩
  have hx0b := (hx0.next hb6).wide hb6.size
  have hx1 := (hx1b.next hb6).wide hb6.size
  have hx5b := (hx5.next hb6).wide hb6.size
  have hb := hb1.trans (hb6.mono hb1.size)
  clear h1 hx0 hx1b hx5 hb1 hb6
  have h1 := star_any _ v6 w6.heap.size w6 hx6 (Nat.le_refl _)
  go_wp2_with fail
  refine h1.mono ?_
  rintro _ w7 ⟨v7, rfl, hx7, hb7⟩
  have hx0 := (hx0b.next hb7).wide hb7.size
  have hx1b := (hx1.next hb7).wide hb7.size
  have hx5 := (hx5b.next hb7).wide hb7.size
  have hb1 := hb.trans (hb7.mono hb.size)
  clear h1 hx0b hx1 hx5b hx6 hb hb7
  have h1 := two_any 4 (by omega) _ _ v5 v7 w7.heap.size w7 hx5 hx7 (Nat.le_refl _)
  go_wp2_with fail
  refine h1.mono ?_
  rintro _ w8 ⟨v8, rfl, hx2, hb8⟩
  have hx0b := (hx0.next hb8).wide hb8.size
  have hx1 := (hx1b.next hb8).wide hb8.size
  have hb := hb1.trans (hb8.mono hb1.size)
  clear h1 hx0 hx1b hx5 hx7 hb1 hb8
  obtain ⟨k2, c2, a2, p2, kids2, vals2, rfl, -, -⟩ := hx2.shape
  obtain ⟨n2, HN2⟩ : ∃ q, Hid (kids2.length = q) := ⟨_, (rfl : _ = _)⟩
  rw [HN2.out] at hx2 ⊢
  have hro := rxs_three w8 w8.heap.size k0 k1 k2 c0 c1 c2 a0 a1 a2 n0 n1 n2 p0 p1 p2 _ _ _ hx0b hx1 hx2 (Nat.le_refl _)
  have hba := below_alloc1 w8 (Obj.cells #[.int .i64 k0, .int .u64 (c0.1.toNat : Int), .int .u64 (c0.2.1.toNat : Int), .int .u64 (c0.2.2.1.toNat : Int), .int .u64 (c0.2.2.2.toNat : Int), .slice a0 n0 p0, .int .i64 k1, .int .u64 (c1.1.toNat : Int), .int .u64 (c1.2.1.toNat : Int), .int .u64 (c1.2.2.1.toNat : Int), .int .u64 (c1.2.2.2.toNat : Int), .slice a1 n1 p1, .int .i64 k2, .int .u64 (c2.1.toNat : Int), .int .u64 (c2.2.1.toNat : Int), .int .u64 (c2.2.2.1.toNat : Int), .int .u64 (c2.2.2.2.toNat : Int), .slice a2 n2 p2] 44)
  have hsz2 : (w8.alloc (Obj.cells #[.int .i64 k0, .int .u64 (c0.1.toNat : Int), .int .u64 (c0.2.1.toNat : Int), .int .u64 (c0.2.2.1.toNat : Int), .int .u64 (c0.2.2.2.toNat : Int), .slice a0 n0 p0, .int .i64 k1, .int .u64 (c1.1.toNat : Int), .int .u64 (c1.2.1.toNat : Int), .int .u64 (c1.2.2.1.toNat : Int), .int .u64 (c1.2.2.2.toNat : Int), .slice a1 n1 p1, .int .i64 k2, .int .u64 (c2.1.toNat : Int), .int .u64 (c2.2.1.toNat : Int), .int .u64 (c2.2.2.1.toNat : Int), .int .u64 (c2.2.2.2.toNat : Int), .slice a2 n2 p2] 44)).heap.size = w8.heap.size + 1 := by simp
  rw [← hsz2] at hro
  have hcm := made_abc _ _ hro
  obtain ⟨w9, HW9⟩ : ∃ q, Hid (w8.alloc (Obj.cells #[.int .i64 k0, .int .u64 (c0.1.toNat : Int), .int .u64 (c0.2.1.toNat : Int), .int .u64 (c0.2.2.1.toNat : Int), .int .u64 (c0.2.2.2.toNat : Int), .slice a0 n0 p0, .int .i64 k1, .int .u64 (c1.1.toNat : Int), .int .u64 (c1.2.1.toNat : Int), .int .u64 (c1.2.2.1.toNat : Int), .int .u64 (c1.2.2.2.toNat : Int), .slice a1 n1 p1, .int .i64 k2, .int .u64 (c2.1.toNat : Int), .int .u64 (c2.2.1.toNat : Int), .int .u64 (c2.2.2.1.toNat : Int), .int .u64 (c2.2.2.2.toNat : Int), .slice a2 n2 p2] 44) = q) := ⟨_, (rfl : _ = _)⟩
  rw [HW9.out] at hcm hba
  have HB9 : Hid (Below w0.heap.size w0 w9) := hb.trans (hba.mono hb.size)
  clear hx0b hx1 hx2 hb hro hba hsz2 HN0 HN1 HN2
  go_wp2_with fail
  rw [HW9.out]
  clear HW9
  refine hcm.mono ?_
  rintro _ wa ⟨rb, rc, tb, tc, rfl, hrw, hts, hall, hba⟩
  have hbz := below_alloc1 wa (Obj.cells #[.slice (some ⟨rb, 0, none⟩) 5 rc, .slice (some ⟨tb, 0, none⟩) 5 tc] 30)
  obtain ⟨wb, HWB⟩ : ∃ q, Hid (wa.alloc (Obj.cells #[.slice (some ⟨rb, 0, none⟩) 5 rc, .slice (some ⟨tb, 0, none⟩) 5 tc] 30) = q) := ⟨_, (rfl : _ = _)⟩
  obtain ⟨gd, HGD⟩ : ∃ q, Hid (wa.heap.size = q) := ⟨_, (rfl : _ = _)⟩
  have y0 : wb.cell? ⟨gd, 0, none⟩ = some (.slice (some ⟨rb, 0, none⟩) 5 rc) := by rw [← HWB.out, ← HGD.out]; simp
  have y1 : wb.cell? ⟨gd, 1, none⟩ = some (.slice (some ⟨tb, 0, none⟩) 5 tc) := by rw [← HWB.out, ← HGD.out]; simp
  rw [HWB.out] at hbz
  have HBB : Hid (Below w0.heap.size w0 wb) := HB9.out.trans ((hba.trans (hbz.mono hba.size)).mono HB9.out.size)
  have hpk := Pk.pack_own (.slice (some ⟨rb, 0, none⟩) 5 rc) (.slice (some ⟨tb, 0, none⟩) 5 tc) 5 abR abG wb (rw_pk (hrw.below hbz (Nat.le_refl _))) (ts_pk (hts.below hbz (Nat.le_refl _))) (chk_pk (all_chk hall (by omega)))
  have HCK : Hid (Pk.Dfa.chk 5 5 abR abG = 0) := chk_pk (all_chk hall (by omega))
  clear hcm hrw hts hall hba hbz HB9
  go_upto_region 2 with fail
  rw [HWB.out, HGD.out]
  clear HWB HGD
  go_wp2_with fail
  clear y0 y1
  refine hpk.mono ?_
  rintro _ wc ⟨nv, tv, rfl, hnx, htv, hbc, hpw⟩
  have hpl : Pk.pl (fun b => Pk.idx 5 abR (Pk.fsts 5 abR b) b) nv tv = Pk.pl (Pk.ofp 5 abR) nv tv := Pk.pl_congr _ _ fun j hj => by unfold Pk.ofp; rw [if_pos hj]
  rw [hpl]
  have HONE : Hid ((Pk.pl (Pk.ofp 5 abR) nv tv).toArray.all (·.oneCell') = true) := by
    obtain ⟨_, _, e1, _⟩ := hnx
    obtain ⟨_, _, e2, _⟩ := htv
    show _ = _
    rw [e1, e2]
    exact Pk.pl_one _ _ _ _ _ _ _
  have HLN : Hid ((Pk.pl (Pk.ofp 5 abR) nv tv).length = 258) := Pk.pl_length _ _ _
  obtain ⟨l, HL⟩ : ∃ l, Hid (Pk.pl (Pk.ofp 5 abR) nv tv = l) := ⟨_, (rfl : _ = _)⟩
  rw [HL.out] at HONE HLN
  rw [HL.out]
  have HSZ : Hid (l.toArray.size = 258) := by show _ = _; rw [List.size_toArray]; exact HLN.out
  have HSI : Hid ((Try.prog.info? 54).map (·.size) = some l.length) := by show _ = _; rw [HLN.out]; exact Pk.size47
  have HBC : Hid (Below w0.heap.size w0 wc) := HBB.out.trans (hbc.mono HBB.out.size)
  have hbp := below_alloc1 wc (Obj.cells l.toArray 54)
  have hrg := Pk.range_block wc l 54
  obtain ⟨wp, HWP⟩ : ∃ q, Hid (wc.alloc (Obj.cells l.toArray 54) = q) := ⟨_, (rfl : _ = _)⟩
  obtain ⟨gp, HGP⟩ : ∃ q, Hid (wc.heap.size = q) := ⟨_, (rfl : _ = _)⟩
  rw [HWP.out] at hbp hrg
  rw [HGP.out] at hrg
  have HRG : Hid (wp.rangeAt gp 0 l) := hrg
  have HBP : Hid (Below w0.heap.size w0 wp) := HBC.out.trans (hbp.mono HBC.out.size)
  have hrow := HB0.out.2.1.of_block (HBP.out.block _ HB0.out.2.1.lt)
  have HTH : Hid (wp.there g0 0 l.toArray.size) := by rw [HSZ.out]; exact there_row hrow
  have HOFF : Hid (∀ W : World, wp.heap.size ≤ W.heap.size → (∀ k, k ≠ g0 → W.heap[k]? = wp.heap[k]?) → Pk.Nx W nv 5 (fun _ => (Pk.fsts 5 abR 256).length) (fun i t => abR i ((Pk.fsts 5 abR 256).getD t 0)) ∧ Pk.Ts W tv 5 abG) := fun W h1 h2 => by
    have hlt : g0 < wb.heap.size := by have := HB0.out.2.2; have := HBB.out.size; omega
    have e : ∀ k, k < wc.heap.size → k ≠ g0 → W.heap[k]? = wc.heap[k]? := fun k hk hk2 => (h2 k hk2).trans (hbp.block k hk)
    exact nx_off hpw hlt hnx htv (Nat.le_trans hbp.size h1) e
  clear hpk hnx htv hbc hpw hpl hbp hrg hrow HBC HBB
  go_wp2_with (first | (refine Pk.wpList_store_new47 rfl _ _ rfl zs l.toArray rfl rfl HZS.out HSZ.out HONE.out ?_; rw [HWP.out, HGP.out]) | refine wpList_load_mid rfl 54 _ rfl gp 0 rfl l _ HRG.out Try.underlying54 rfl HSI.out ?_ | refine wpList_store_mid rfl 54 _ _ rfl g0 0 l.toArray rfl rfl HTH.out (by rw [HSZ.out]; exact Pk.size47) HONE.out ?_)
  obtain ⟨q1, q2, q3, q4, q5⟩ := setCells_other g0 l 0 wp
  have h9 := HOFF.out (wp.setCells g0 0 l) (Nat.le_of_eq q1.symm) q5
  refine bodyPost_ret (v := .agg l.toArray) (results_cell_mid Try.results19 _ _ g0 l _ rfl (World.rangeAt_setCells_same _ _ _ _ (by have := HTH.out; rwa [List.size_toArray] at this)) Try.underlying54 rfl HSI.out) rfl ⟨nv, tv, by rw [HL.out], h9.1, h9.2, HCK.out, ?_⟩
  have hbw := HB0.out.1.trans (HBP.out.mono HB0.out.1.size)
  exact ⟨q2.trans hbw.os, q3.trans hbw.tape, q4.trans hbw.output, by rw [q1]; exact hbw.size, fun k hk => (q5 k (by have := HG0.out; omega)).trans (hbw.block k hk)⟩
end Go.Proofs.Ytlmlkpdppkgenaa
