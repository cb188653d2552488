/-
  The contract of chart.settle.
-/
import Derived.Test.YtpbnnmfjahckmaaChSums
namespace Go.Proofs.Ytpbnnmfjahckmaa
open Go.RowKit
open Cg

namespace Cg
/-- Heads are nonterminals. -/
def HdQ (n : Nat) (ps : List Pd) : Prop := ∀ p ∈ ps, 0 ≤ p.1 ∧ p.1 < (n : Int)
theorem stm_out {n : Nat} {ps : List Pd} (h : HdQ n ps) {K : Nat} {M : Sy → Nat → Nat → Nat} {a : Int} (ha : a < 0 ∨ (n : Int) ≤ a) {i j : Nat} : stm ps K M a i j = 0 := by
  unfold stm
  rw [sm_zero fun q hq => ?_]
  · rfl
  · have e : ps.getD q (0, []) = ps[q] := by rw [List.getD_eq_getElem?_getD, List.getElem?_eq_getElem hq]; rfl
    have := h _ (List.getElem_mem hq)
    rw [e, if_neg (by omega)]
theorem At.le2 {L : Int → Nat → Nat → Bool} {ps : List Pd} {K i0 j0 : Nat} {N : TbN} (h : At L ps K i0 j0 N) (a : Int) (i j : Nat) : N a i j ≤ 2 := by
  by_cases e : j < i ∨ K ≤ j
  · rw [h.low a i j e]; omega
  · by_cases e2 : Dn2 i0 j0 i j
    · rw [h.fix a i j e2 (by omega) (by omega)]; exact stm_le
    · by_cases e3 : i = i0 ∧ j = j0
      · rw [e3.1, e3.2]; exact Nat.le_trans (h.up a) stm_le
      · rw [h.new a i j e2 e3]; omega
/-- What the tables of the productions hold. -/
structure Bi (L : Int → Nat → Nat → Bool) (ps : List Pd) (K i0 j0 : Nat) (N : TbN) (B : Nat → Nat → Nat → Nat → Nat) : Prop where
  z : ∀ p i j, p < ps.length → i ≠ j → B p 0 i j = 0
  d : ∀ p k i j, p < ps.length → k ≤ (ps.getD p (0, [])).2.length → Dn2 i0 j0 i j → i ≤ j → j < K → B p k i j = vB ps K (on1 L N) p i j k
theorem vB_rnd {L : Int → Nat → Nat → Bool} (hL : TrL L) {ps : List Pd} {K i0 j0 : Nat} {N : TbN} (hN : ∀ a i j, j < i → N a i j = 0) (hij : i0 ≤ j0) {p i j k : Nat} (hd : Dn2 i0 j0 i j) : vB ps K (on1 L N) p i j k = vB ps K (on1 L (rnd ps K L i0 j0 N)) p i j k := by
  unfold vB
  have hb : ∀ a i j, j < i → rnd ps K L i0 j0 N a i j = 0 := fun a i j h => by
    unfold rnd; rw [if_neg (by omega)]; exact hN a i j h
  rw [mr_congr (on1_tri hL hN) (on1_tri hL hb) _ fun s a b ha hab hb2 _ => ?_]
  unfold on1
  split
  · unfold rnd
    rw [if_neg (by rcases hd with h | h <;> omega)]
  · rfl
theorem vB_zero {ps : List Pd} {K : Nat} {M : Sy → Nat → Nat → Nat} {p i j : Nat} : vB ps K M p i j 0 = if i = j then 1 else 0 := by
  unfold vB; rw [List.take_zero, mr]; split <;> rfl
theorem Bi.rnd {L : Int → Nat → Nat → Bool} (hL : TrL L) {ps : List Pd} {K i0 j0 : Nat} {N : TbN} {B : Nat → Nat → Nat → Nat → Nat} (h : Bi L ps K i0 j0 N B) (hN : ∀ a i j, j < i → N a i j = 0) (hij : i0 ≤ j0) : Bi L ps K i0 j0 (rnd ps K L i0 j0 N) (mB ps K (on1 L N) B i0 j0 ps.length) := by
  refine ⟨fun p i j hp hn => ?_, fun p k i j hp hk hd h1 h2 => ?_⟩
  · unfold mB
    split
    · rename_i e; rw [vB_zero, if_neg (by omega)]
    · exact h.z p i j hp hn
  · unfold mB
    rw [if_neg (by rcases hd with e | e <;> omega), h.d p k i j hp hk hd h1 h2]
    exact vB_rnd hL hN hij hd
theorem Bi.next {L : Int → Nat → Nat → Bool} {ps : List Pd} {K i0 j0 : Nat} {N : TbN} {B : Nat → Nat → Nat → Nat → Nat} (h : Bi L ps K i0 j0 N B) (hv : ∀ p k, p < ps.length → k ≤ (ps.getD p (0, [])).2.length → B p k i0 j0 = vB ps K (on1 L N) p i0 j0 k) : Bi L ps K i0 (j0 + 1) N B := by
  refine ⟨h.z, fun p k i j hp hk hd h1 h2 => ?_⟩
  by_cases e : i = i0 ∧ j = j0
  · rw [e.1, e.2]; exact hv p k hp hk
  · exact h.d p k i j hp hk (by rcases hd with e2 | e2; exact Or.inl e2; exact Or.inr ⟨e2.1, by omega⟩) h1 h2
theorem Bi.row {L : Int → Nat → Nat → Bool} {ps : List Pd} {K i0 : Nat} {N : TbN} {B : Nat → Nat → Nat → Nat → Nat} (h : Bi L ps K (i0 + 1) K N B) : Bi L ps K i0 i0 N B :=
  ⟨h.z, fun p k i j hp hk hd h1 h2 => h.d p k i j hp hk (by
    rcases hd with hd | hd
    · by_cases e : i = i0 + 1
      · exact Or.inr ⟨e, h2⟩
      · exact Or.inl (by omega)
    · omega) h1 h2⟩
/-- The first k nonterminals of a round. -/
def nk (ps : List Pd) (K : Nat) (L : Int → Nat → Nat → Bool) (i0 j0 : Nat) (N : TbN) (k : Nat) : TbN := fun a i j => if i = i0 ∧ j = j0 ∧ 0 ≤ a ∧ a < (k : Int) then stm ps K (on1 L N) a i j else N a i j
theorem nk_zero {ps : List Pd} {K : Nat} {L : Int → Nat → Nat → Bool} {i0 j0 : Nat} {N : TbN} : nk ps K L i0 j0 N 0 = N := by
  funext a i j; unfold nk; rw [if_neg (by omega)]
theorem nk_succ {ps : List Pd} {K : Nat} {L : Int → Nat → Nat → Bool} {i0 j0 : Nat} {N : TbN} {k : Nat} : updN (nk ps K L i0 j0 N k) k i0 j0 (stm ps K (on1 L N) (k : Int) i0 j0) = nk ps K L i0 j0 N (k + 1) := by
  funext a i j
  unfold updN nk
  by_cases e : i = i0 ∧ j = j0
  · obtain ⟨rfl, rfl⟩ := e
    by_cases e2 : a = (k : Int)
    · rw [if_pos ⟨e2, rfl, rfl⟩, if_pos ⟨rfl, rfl, by omega, by omega⟩, e2]
    · rw [if_neg (fun h => e2 h.1)]
      by_cases e3 : 0 ≤ a ∧ a < (k : Int)
      · rw [if_pos ⟨rfl, rfl, e3⟩, if_pos ⟨rfl, rfl, e3.1, by omega⟩]
      · rw [if_neg (fun h => e3 h.2.2), if_neg (by omega)]
  · rw [if_neg (fun h => e h.2), if_neg (fun h => e ⟨h.1, h.2.1⟩), if_neg (fun h => e ⟨h.1, h.2.1⟩)]
theorem nk_same {ps : List Pd} {K : Nat} {L : Int → Nat → Nat → Bool} {i0 j0 : Nat} {N : TbN} {k : Nat} (h : N (k : Int) i0 j0 = stm ps K (on1 L N) (k : Int) i0 j0) : nk ps K L i0 j0 N (k + 1) = nk ps K L i0 j0 N k := by
  funext a i j
  unfold nk
  by_cases e : i = i0 ∧ j = j0
  · obtain ⟨rfl, rfl⟩ := e
    by_cases e2 : a = (k : Int)
    · rw [if_pos ⟨rfl, rfl, by omega, by omega⟩, if_neg (by omega), e2, h]
    · by_cases e3 : 0 ≤ a ∧ a < (k : Int)
      · rw [if_pos ⟨rfl, rfl, e3.1, by omega⟩, if_pos ⟨rfl, rfl, e3⟩]
      · rw [if_neg (by omega), if_neg (fun h => e3 h.2.2)]
  · rw [if_neg (fun h => e ⟨h.1, h.2.1⟩), if_neg (fun h => e ⟨h.1, h.2.1⟩)]
theorem nk_end {n : Nat} {ps : List Pd} (hd : HdQ n ps) {K : Nat} {L : Int → Nat → Nat → Bool} {i0 j0 : Nat} {N : TbN} (h : At L ps K i0 j0 N) : nk ps K L i0 j0 N n = rnd ps K L i0 j0 N := by
  funext a i j
  unfold nk rnd
  by_cases e : i = i0 ∧ j = j0
  · obtain ⟨rfl, rfl⟩ := e
    by_cases e2 : 0 ≤ a ∧ a < (n : Int)
    · rw [if_pos ⟨rfl, rfl, e2⟩, if_pos ⟨rfl, rfl⟩]
    · rw [if_neg (fun h => e2 h.2.2), if_pos ⟨rfl, rfl⟩]
      have h1 := stm_out hd (K := K) (M := on1 L N) (a := a) (i := i) (j := j) (by omega)
      have h2 := h.up a
      omega
  · rw [if_neg (fun h => e ⟨h.1, h.2.1⟩), if_neg e]
/-- How far a piece's numbers may still rise. -/
def gap (n : Nat) (N : TbN) (i j : Nat) : Nat := sm n fun a => 2 - N (a : Int) i j
theorem gap_less {n : Nat} {ps : List Pd} {K : Nat} {L : Int → Nat → Nat → Bool} {i0 j0 : Nat} {N : TbN} (h : At L ps K i0 j0 N) {a : Nat} (ha : a < n) (hne : N (a : Int) i0 j0 ≠ stm ps K (on1 L N) (a : Int) i0 j0) : gap n (rnd ps K L i0 j0 N) i0 j0 < gap n N i0 j0 := by
  have hr : ∀ b : Int, rnd ps K L i0 j0 N b i0 j0 = stm ps K (on1 L N) b i0 j0 := fun b => by unfold rnd; rw [if_pos ⟨rfl, rfl⟩]
  have key : ∀ m, m ≤ n → sm m (fun a => 2 - rnd ps K L i0 j0 N (a : Int) i0 j0) + (if a < m then 1 else 0) ≤ sm m fun a => 2 - N (a : Int) i0 j0 := by
    intro m
    induction m with
    | zero => intro _; simp [sm]
    | succ m ih =>
      intro hm
      have := ih (by omega)
      rw [sm, sm]
      have h1 := h.up (m : Int)
      have h2 := stm_le (ps := ps) (K := K) (M := on1 L N) (a := (m : Int)) (i := i0) (j := j0)
      rw [hr]
      by_cases e : a = m
      · subst e
        rw [if_neg (by omega)] at this
        rw [if_pos (by omega)]
        omega
      · by_cases e2 : a < m
        · rw [if_pos e2] at this; rw [if_pos (by omega)]; omega
        · rw [if_neg e2] at this; rw [if_neg (by omega)]; omega
  have := key n (Nat.le_refl _)
  rw [if_pos ha] at this
  unfold gap; omega
end Cg
theorem Rc.hd {w0 : World} {t : Int} {n : Nat} {pv wv : Value} {ps : List Pd} {ws : List Int} (rc : Rc w0 t n pv wv ps ws) : HdQ n ps := fun p hp => (rc.okl p hp).2
/-- What settle holds. -/
structure Ce (w w0 : World) (y : Lay) (t : Int) (n : Nat) (pv wv : Value) (ps : List Pd) (ws : List Int) (op : Bool) (N : TbN) (B : Nat → Nat → Nat → Nat → Nat) (g : Nat) (l : Int → Nat) (W : World) : Prop where
  ch : Ch w0 y t n pv wv ps ws op N B W
  fm : Fm (fun k => k = y.bn ∨ ∃ p, p < ps.length ∧ k = y.bs p) w W
  gn : g ≠ y.bn
  rw : W.rowIs g 5 n (fun a => .int .u8 ((l (a : Int) : Nat) : Int))
/-- .. between two rounds. -/
structure CrQ (w w0 : World) (y : Lay) (t : Int) (n : Nat) (pv wv : Value) (ps : List Pd) (ws : List Int) (op : Bool) (i j : Nat) (b : Bool) (N : TbN) (B : Nat → Nat → Nat → Nat → Nat) (W : World) : Prop where
  ch : Ch w0 y t n pv wv ps ws op N B W
  fm : Fm (fun k => k = y.bn ∨ ∃ p, p < ps.length ∧ k = y.bs p) w W
  at0 : At (lf op ws) ps (ws.length + 1) i j N
  bi : Bi (lf op ws) ps (ws.length + 1) i j N B
  fin : b = false → (∀ a, N a i j = stm ps (ws.length + 1) (on1 (lf op ws) N) a i j) ∧ ∀ p k, p < ps.length → k ≤ (ps.getD p (0, [])).2.length → B p k i j = vB ps (ws.length + 1) (on1 (lf op ws) N) p i j k
/-- .. behind it. -/
def SettleP (w w0 : World) (y : Lay) (t : Int) (n : Nat) (pv wv : Value) (ps : List Pd) (ws : List Int) (op : Bool) (i j : Nat) (W : World) : Prop := ∃ N B, Ch w0 y t n pv wv ps ws op N B W ∧ Fm (fun k => k = y.bn ∨ ∃ p, p < ps.length ∧ k = y.bs p) w W ∧ At (lf op ws) ps (ws.length + 1) i (j + 1) N ∧ Bi (lf op ws) ps (ws.length + 1) i (j + 1) N B
def cellN (W : World) (a : Addr) : Nat := match W.cell? a with | some (.int _ v) => v.toNat | _ => 0
def gapW (n bn i j : Nat) (W : World) : Nat := sm n fun a => 2 - cellN W ⟨bn, a * 441 + i * 21 + j, none⟩
theorem gapW_eq {w0 : World} {y : Lay} {t : Int} {n : Nat} {pv wv : Value} {ps : List Pd} {ws : List Int} {op : Bool} {N : TbN} {B : Nat → Nat → Nat → Nat → Nat} {W : World} (h : Ch w0 y t n pv wv ps ws op N B W) {i j : Nat} (hi : i < 21) (hj : j < 21) : gapW n y.bn i j W = gap n N i j := by
  unfold gapW gap
  refine sm_congr fun a ha => ?_
  unfold cellN
  rw [h.ncell ha hi hj]
  simp
def bitOfV (v : Value) : Nat := match v with | .bool true => 1 | _ => 0

set_option maxHeartbeats 8000000 in
set_option maxRecDepth 20000 in
theorem settle_any2 (w0 : World) (y : Lay) (t : Int) (n : Nat) (pv wv : Value) (ps : List Pd) (ws : List Int) (op : Bool) (N : TbN) (B : Nat → Nat → Nat → Nat → Nat) (w : World) (rc : Rc w0 t n pv wv ps ws) (h : Ch w0 y t n pv wv ps ws op N B w) (i j : Nat) (hij : i ≤ j) (hj : j ≤ ws.length)
    (ha : At (lf op ws) ps (ws.length + 1) i j N) (hb : Bi (lf op ws) ps (ws.length + 1) i j N B) :
    Calls Try.prog 59 #[.pointer (some ⟨y.q, 0, none⟩), .int .i64 (i : Int), .int .i64 (j : Int)] w fun e w' => e = .returned (.tuple #[]) ∧ SettleP w w0 y t n pv wv ps ws op i j w' := by
  have hwl := rc.wl
  have hnl := rc.nl
  have HRC : Hid (Rc w0 t n pv wv ps ws) := rc
  have HR0 : Hid (CrQ w w0 y t n pv wv ps ws op i j true N B w) := ⟨h, Fm.refl _ _, ha, hb, fun e => (by cases e)⟩
  clear h ha hb rc
  go_enter Try.func59, Try.ntmps59
  go_wp2_with fail
  go_loopw [6] (fun v wr => ∃ b N B, v = .bool b ∧ Hid (CrQ w w0 y t n pv wv ps ws op i j b N B wr)) (fun v wr => gapW n y.bn i j wr + bitOfV v)
  case atStart => exact ⟨true, N, B, rfl, HR0⟩
  case round =>
    obtain ⟨b, N1, B1, rfl, HR⟩ := hrel
    cases b with
    | false =>
      obtain ⟨f1, f2⟩ := HR.out.fin rfl
      have HE : Hid (SettleP w w0 y t n pv wv ps ws op i j wr) := ⟨N1, B1, HR.out.ch, HR.out.fm, HR.out.at0.next f1, HR.out.bi.next f2⟩
      clear f1 f2 HR
      go_wp2_with fail
      refine bodyPost_end (v := .tuple #[]) (by simp [results, Try.results59, go_sem]) rfl ⟨rfl, HE.out⟩
    | true =>
      have hcall := sums_any w0 y t n pv wv ps ws op N1 B1 wr HRC.out HR.out.ch HR.out.at0.le2 HR.out.at0.back i j hij hj (by
        by_cases e : i = j
        · exact Or.inl e
        · exact Or.inr fun p hp => HR.out.bi.z p i j hp e) (fun p k c hp hk h1 h2 => HR.out.bi.d p k i c hp hk (Or.inr ⟨rfl, h2⟩) h1 (by omega))
      have HGW : Hid (gapW n y.bn i j wr = gap n N1 i j) := gapW_eq HR.out.ch (by omega) (by omega)
      obtain ⟨gw, HGG⟩ : ∃ gw, Hid (gapW n y.bn i j wr = gw) := ⟨_, (rfl : gapW n y.bn i j wr = _)⟩
      rw [HGG.out] at HGW ⊢
      clear HGG
      go_wp2_with fail
      refine hcall.mono ?_
      rintro _ w2 ⟨g, rfl, hcu⟩
      have HE0 : Hid (Ce w w0 y t n pv wv ps ws op (nk ps (ws.length + 1) (lf op ws) i j N1 0) (mB ps (ws.length + 1) (on1 (lf op ws) N1) B1 i j ps.length) g (fun a => stm ps (ws.length + 1) (on1 (lf op ws) N1) a i j) w2) := by
        refine ⟨by rw [nk_zero]; exact hcu.ch, HR.out.fm.trans hcu.fm fun q _ e => Or.inr e, fun e => ?_, hcu.rw⟩
        have h1 := hcu.ge
        have h2 := HR.out.ch.ps_lt.2.1
        omega
      clear hcall hcu
      obtain ⟨B2, HB2⟩ : ∃ B2, Hid (mB ps (ws.length + 1) (on1 (lf op ws) N1) B1 i j ps.length = B2) := ⟨_, (rfl : mB ps (ws.length + 1) (on1 (lf op ws) N1) B1 i j ps.length = _)⟩
      rw [HB2.out] at HE0
      go_wp2_with fail
      go_loopw [6, 15] (fun v q W => ∃ (b : Bool) (k : Nat), k ≤ n ∧ q = .int .i64 (k : Int) ∧ v = .bool b ∧ Hid (b = true ↔ ∃ a : Nat, a < k ∧ N1 (a : Int) i j ≠ stm ps (ws.length + 1) (on1 (lf op ws) N1) (a : Int) i j) ∧ Hid (Ce w w0 y t n pv wv ps ws op (nk ps (ws.length + 1) (lf op ws) i j N1 k) B2 g (fun a => stm ps (ws.length + 1) (on1 (lf op ws) N1) a i j) W)) (fun _ q _ => n - (intOf q).toNat)
      case atStart => exact ⟨false, 0, by omega, rfl, rfl, ⟨fun e => (by cases e), fun ⟨a, h, _⟩ => (by omega)⟩, HE0⟩
      case round =>
        obtain ⟨b, k, hk, rfl, rfl, HI, HE⟩ := hrel
        by_cases hlt : k < n
        · have c0 := HE.out.ch.ncell hlt (i := i) (j := j) (by omega) (by omega)
          have hnk : nk ps (ws.length + 1) (lf op ws) i j N1 k (k : Int) i j = N1 (k : Int) i j := by unfold nk; rw [if_neg (by omega)]
          rw [hnk] at c0
          have c1 := World.rowIs.frozen HE.out.ch.nons (k * 441 + i * 21 + j)
          have c2 : wr.cell? ⟨g, k, none⟩ = _ := HE.out.rw.cell hlt
          have c3 : wr.cell? ⟨y.q, 5, none⟩ = some (.slice (some ⟨y.bn, 0, none⟩) n n) := HE.out.ch.bcell 5
          have HSM : Hid (N1 (k : Int) i j = stm ps (ws.length + 1) (on1 (lf op ws) N1) (k : Int) i j → nk ps (ws.length + 1) (lf op ws) i j N1 (k + 1) = nk ps (ws.length + 1) (lf op ws) i j N1 k) := nk_same
          have HST : Hid (Ce w w0 y t n pv wv ps ws op (nk ps (ws.length + 1) (lf op ws) i j N1 (k + 1)) B2 g (fun a => stm ps (ws.length + 1) (on1 (lf op ws) N1) a i j) (wr.setCell ⟨y.bn, k * 441 + i * 21 + j, none⟩ (.int .u8 ((stm ps (ws.length + 1) (on1 (lf op ws) N1) (k : Int) i j : Nat) : Int)))) := by
            refine ⟨?_, HE.out.fm.trans (Fm.set (X := fun k => k = y.bn) _ rfl) fun q _ e => Or.inl e, HE.out.gn, HE.out.rw.setOther HE.out.gn _⟩
            have := HE.out.ch.setN (a := k) (i := i) (j := j) (by omega) (by omega) (stm ps (ws.length + 1) (on1 (lf op ws) N1) (k : Int) i j)
            rw [nk_succ] at this; exact this
          have HIN : Hid ((∃ a : Nat, a < k + 1 ∧ N1 (a : Int) i j ≠ stm ps (ws.length + 1) (on1 (lf op ws) N1) (a : Int) i j) ↔ b = true ∨ N1 (k : Int) i j ≠ stm ps (ws.length + 1) (on1 (lf op ws) N1) (k : Int) i j) := by
            constructor
            · rintro ⟨a, h1, h2⟩
              by_cases e : a = k
              · subst e; exact Or.inr h2
              · exact Or.inl (HI.out.2 ⟨a, by omega, h2⟩)
            · rintro (h1 | h1)
              · obtain ⟨a, h2, h3⟩ := HI.out.1 h1; exact ⟨a, by omega, h3⟩
              · exact ⟨k, by omega, h1⟩
          obtain ⟨xs, HXS⟩ : ∃ xs, Hid (stm ps (ws.length + 1) (on1 (lf op ws) N1) (k : Int) i j = xs) := ⟨_, (rfl : stm ps (ws.length + 1) (on1 (lf op ws) N1) (k : Int) i j = _)⟩
          obtain ⟨xo, HXO⟩ : ∃ xo, Hid (N1 (k : Int) i j = xo) := ⟨_, (rfl : N1 (k : Int) i j = _)⟩
          rw [HXS.out] at c2 HST HIN HSM
          rw [HXO.out] at c0 HIN HSM
          have k1 : (k : Int) < (n : Int) := by omega
          have k2 : (i : Int) < 21 := by omega
          have k3 : (j : Int) < 21 := by omega
          by_cases hx : xo = xs
          · have hb0 : ((xo : Int) != (xs : Int)) = false := by simp; omega
            have HE1 : Hid (Ce w w0 y t n pv wv ps ws op (nk ps (ws.length + 1) (lf op ws) i j N1 (k + 1)) B2 g (fun a => stm ps (ws.length + 1) (on1 (lf op ws) N1) a i j) wr) := by
              show Ce _ _ _ _ _ _ _ _ _ _ _ _ _ _ _
              rw [HSM.out hx]; exact HE.out
            have HIN2 : Hid (b = true ↔ ∃ a : Nat, a < k + 1 ∧ N1 (a : Int) i j ≠ stm ps (ws.length + 1) (on1 (lf op ws) N1) (a : Int) i j) := ⟨fun e => HIN.out.2 (Or.inl e), fun e => (HIN.out.1 e).resolve_right fun e2 => e2 hx⟩
            clear hx
            go_wp2_with fail
            go_roundw
            case rel => exact ⟨b, k + 1, by omega, by go_num, rfl, HIN2, HE1⟩
            case measure => simp [intOf]; omega
          · have hb0 : ((xo : Int) != (xs : Int)) = true := by simp; omega
            have HIN2 : Hid (true = true ↔ ∃ a : Nat, a < k + 1 ∧ N1 (a : Int) i j ≠ stm ps (ws.length + 1) (on1 (lf op ws) N1) (a : Int) i j) := ⟨fun _ => HIN.out.2 (Or.inr hx), fun _ => rfl⟩
            clear hx
            go_wp2_with fail
            go_roundw
            case rel => exact ⟨true, k + 1, by omega, by go_num, rfl, HIN2, HST⟩
            case measure => simp [intOf]; omega
        · obtain rfl : k = n := by omega
          have hne := nk_end HRC.out.hd HR.out.at0
          have HCR : Hid (CrQ w w0 y t k pv wv ps ws op i j b (rnd ps (ws.length + 1) (lf op ws) i j N1) B2 wr) := by
            have h1 := HE.out.ch
            rw [hne] at h1
            refine ⟨h1, HE.out.fm, HR.out.at0.rnd (lf_tri op ws) hij (by omega), ?_, fun e => ?_⟩
            · rw [← HB2.out]; exact HR.out.bi.rnd (lf_tri op ws) HR.out.at0.back hij
            · have hall : ∀ a : Int, N1 a i j = stm ps (ws.length + 1) (on1 (lf op ws) N1) a i j := fun a => by
                by_cases e2 : a < 0 ∨ (k : Int) ≤ a
                · have h2 := stm_out HRC.out.hd (K := ws.length + 1) (M := on1 (lf op ws) N1) (i := i) (j := j) e2
                  have h3 := HR.out.at0.up a
                  omega
                · obtain ⟨a', rfl⟩ : ∃ a' : Nat, a = (a' : Int) := ⟨a.toNat, by omega⟩
                  exact Classical.byContradiction fun e3 => by
                    have := HI.out.2 ⟨a', by omega, e3⟩
                    rw [e] at this; cases this
              have hsame : rnd ps (ws.length + 1) (lf op ws) i j N1 = N1 := by
                funext a i' j'
                unfold rnd
                split
                · rename_i e2; rw [e2.1, e2.2]; exact (hall a).symm
                · rfl
              rw [hsame]
              refine ⟨hall, fun p q hp hq => ?_⟩
              rw [← HB2.out]
              unfold mB
              rw [if_pos ⟨hp, rfl, rfl, hq⟩]
          have HMU : Hid (gapW k y.bn i j wr + bitOfV (.bool b) < gw + 1) := by
            show _ < _
            rw [gapW_eq HCR.out.ch (by omega) (by omega), HGW.out]
            cases b with
            | true =>
              obtain ⟨a, h1, h2⟩ := HI.out.1 rfl
              have := gap_less HR.out.at0 h1 h2
              simp [bitOfV]; omega
            | false =>
              have hall := (HCR.out.fin rfl).1
              have : gap k (rnd ps (ws.length + 1) (lf op ws) i j N1) i j ≤ gap k N1 i j := by
                unfold gap
                refine sm_mono2 fun a _ => ?_
                have := HR.out.at0.le_rnd (a : Int) i j
                omega
              simp [bitOfV]; omega
          clear hne
          go_wp2_with fail
          go_roundw
          case rel => exact ⟨b, _, _, rfl, HCR⟩
          case measure => exact HMU.out
end Go.Proofs.Ytpbnnmfjahckmaa
