/-
  A Posn whose rows are spoilt one by one, and the one rule a*. No function is walked here.
-/
import Derived.Test.YtgdaegmmapljgaaPmOwn0
import Derived.Test.YtgdaegmmapljgaaMxW
namespace Go.Proofs.Ytgdaegmmapljgaa
open Go.RowKit
open Cls Po Rex

/-- The blocks of the rows. -/
def Dat (v V : Nat → Value) (m q : Nat) : Prop := (∃ f, f < 6 ∧ (v f).ownBlock = some q) ∨ ∃ i, i < m ∧ (V i).ownBlock = some q
/-- The rows that are not spoilt yet. -/
structure Sp (base : Nat) (v V : Nat → Value) (p : P) (i : Nat) (fs : Nat → Prop) (W wr : World) : Prop where
  own : ∀ f, f < 6 → fs f → wr.ownsRow base (ety f) (esz f) (v f) (lenP p f) (celP V p f)
  inn : ∀ j, i ≤ j → j < p.follow.length → wr.ownsRow base 3 1 (V j) (p.follow.getD j []).length ((p.follow.getD j []).map (Value.int .i64))
  fm : Fm (Dat v V p.follow.length) W wr
section
variable {base gp i f : Nat} {v V : Nat → Value} {p : P} {fs : Nat → Prop} {W W0 wr w2 : World}
theorem Sp.start (h : Pm base gp v V p W) : Sp base v V p 0 (fun _ => True) W W := ⟨fun f hf _ => h.own f hf, fun j _ hj => h.inn j hj, Fm.refl _ _⟩
theorem fm_grown {X : Nat → Prop} {o : Option Nat} (h : Fm X W wr) (hg : wr.grownBy w2 o) (ho : ∀ q, o = some q → X q) : Fm X W w2 :=
  ⟨hg.os.trans h.os, hg.tape.trans h.tape, hg.output.trans h.output, Nat.le_trans h.size hg.size, fun k hk hn => (hg.block k (Nat.lt_of_lt_of_le hk h.size) (fun e => hn (ho k e.symm))).trans (h.blk k hk hn)⟩
theorem Sp.field (h : Pm base gp v V p W0) (s : Sp base v V p i fs W wr) (hf : f < 6) (hg : wr.grownBy w2 (v f).ownBlock) : Sp base v V p i (fun g => fs g ∧ g ≠ f) W w2 :=
  ⟨fun g hg6 hfs => own_keep (s.own g hg6 hfs.1) fun k hk => hg.block k ((s.own g hg6 hfs.1).lt k hk).2 (fun e => h.d1 g f hg6 hf hfs.2 k hk e.symm),
   fun j hij hj => own_keep (s.inn j hij hj) fun k hk => hg.block k ((s.inn j hij hj).lt k hk).2 (fun e => h.d2 f j hf hj k e.symm hk),
   fm_grown s.fm hg fun _ hq => Or.inl ⟨f, hf, hq⟩⟩
theorem Sp.list (h : Pm base gp v V p W0) (s : Sp base v V p i fs W wr) (hi : i < p.follow.length) (hg : wr.grownBy w2 (V i).ownBlock) : Sp base v V p (i + 1) fs W w2 :=
  ⟨fun g hg6 hfs => own_keep (s.own g hg6 hfs) fun k hk => hg.block k ((s.own g hg6 hfs).lt k hk).2 (fun e => h.d2 g i hg6 hi k hk e.symm),
   fun j hij hj => own_keep (s.inn j (by omega) hj) fun k hk => hg.block k ((s.inn j (by omega) hj).lt k hk).2 (fun e => h.d3 j i hj hi (by omega) k hk e.symm),
   fm_grown s.fm hg fun _ hq => Or.inr ⟨i, hi, hq⟩⟩
theorem dat_own {m q : Nat} (h : Dat v V m q) : Own gp v V m q := Or.inr h
theorem Sp.below (h : Pm base gp v V p W0) (s : Sp base v V p i fs W wr) {B : Nat} (hB : B ≤ gp) (hs : W0.heap.size ≤ W.heap.size) : Below B W wr :=
  ⟨s.fm.os, s.fm.tape, s.fm.output, s.fm.size, fun q hq => s.fm.blk q (by have := h.box.lt; omega) (fun ho => by have := h.own_ge (dat_own ho); omega)⟩
theorem Sp.blk (h : Pm base gp v V p W0) (s : Sp base v V p i fs W wr) {q : Nat} (hq : W0.heap.size ≤ q) (hl : q < W.heap.size) : wr.heap[q]? = W.heap[q]? :=
  s.fm.blk q hl (fun ho => by have := h.own_lt (dat_own ho); omega)
/-- Where the lists lie. -/
theorem Sp.at (s : Sp base v V p i fs W wr) (h3 : fs 3) (hi : i < p.follow.length) : ∃ g cap, v 3 = .slice (some ⟨g, 0, none⟩) p.follow.length cap ∧ wr.cell? ⟨g, i, none⟩ = some (V i) := by
  have ho : wr.ownsRow base 24 1 (v 3) p.follow.length ((List.range p.follow.length).map V) := s.own 3 (by omega) h3
  obtain ⟨g, cap, hv, hb, hl⟩ := ho.form (by omega)
  refine ⟨g, cap, hv, ?_⟩
  rw [hv] at ho
  rw [ho.cellAt i (by omega)]
  simp [hi]
end
/-- The other Posn stays. -/
theorem Sp.other {base gp i b2 g2 : Nat} {v V v2 V2 : Nat → Value} {p p2 : P} {fs : Nat → Prop} {W W0 wr : World} (h : Pm base gp v V p W0) (s : Sp base v V p i fs W wr) (h2 : Pm b2 g2 v2 V2 p2 W) (hg : W0.heap.size ≤ g2) : Pm b2 g2 v2 V2 p2 wr :=
  h2.keep s.fm.size fun _ hq => s.blk h (Nat.le_trans hg (h2.own_ge hq)) (h2.own_lt hq)

def aStar : T := .mk 6 Cls.empty [.mk 3 (range 97 97) []]
theorem aStar_right : Rex.Is aStar (.star (.byte (range 97 97))) := .star (.byte (by decide))
theorem aStar_ans : mkAns [aStar] [.star (.byte (range 97 97))] = 0 := by
  have h1 : rerr aStar = 0 := by
    unfold rerr aStar
    rw [chk_eq, if_neg (by omega), if_neg (by omega)]
    have hn : isNode 6 Cls.empty 1 = true := (isNode_iff _ _ _).2 (Or.inr (Or.inr (Or.inr (Or.inr (Or.inr ⟨rfl, rfl, rfl⟩)))))
    show (if isNode 6 Cls.empty 1 = true then chkL [.mk 3 (range 97 97) []] (1 + 1) (0 + 1) else (1, 0 + 1)).1 = 0
    rw [if_pos hn]
    have hm : isNode 3 (range 97 97) 0 = true := (isNode_iff _ _ _).2 (Or.inr (Or.inr (Or.inl ⟨rfl, rfl, by decide⟩)))
    have hk : chk (.mk 3 (range 97 97) []) (1 + 1) (0 + 1) = (0, 2) := by
      rw [chk_eq, if_neg (by omega), if_neg (by omega)]
      show (if isNode 3 (range 97 97) 0 = true then chkL [] (1 + 1 + 1) (0 + 1 + 1) else (1, 0 + 1 + 1)) = (0, 2)
      rw [if_pos hm]; rfl
    unfold chkL
    rw [hk]; rfl
  have h2 : mkErr [aStar] = 0 := by unfold mkErr Pm.errL; rw [if_neg (by simp), if_pos h1]; rfl
  unfold mkAns
  rw [if_pos h2, if_neg (by simp [Pm.rulesX, Pm.ruleX, Pm.layX, Pm.p00])]
theorem aStar_rts : Pm.Rts [aStar] [.star (.byte (range 97 97))] := ⟨rfl, fun i hi hi2 => by
  obtain rfl : i = 0 := by simpa using hi
  exact aStar_right, fun x hx => by simp at hx; subst hx; simp [Rex.E.nodes]⟩
theorem aStar_follow : (Pm.rulesX [.star (.byte (range 97 97))] 0 Pm.p00).follow = [[0]] := by
  generalize range 97 97 = c
  simp [Pm.rulesX, Pm.ruleX, Pm.layX, Pm.p00, Pm.link, Pm.norm, Go.Lib.compact]
  rfl
end Go.Proofs.Ytgdaegmmapljgaa
