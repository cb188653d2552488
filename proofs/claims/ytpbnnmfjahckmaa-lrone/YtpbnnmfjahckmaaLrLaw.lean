/-
  KNUTH: of a grammar without a Fight each word has one tree at most; a word that is handed in.
-/
import Derived.Test.YtpbnnmfjahckmaaLrCalm
import Derived.Test.YtpbnnmfjahckmaaLrCheck
import Derived.Test.YtpbnnmfjahckmaaChCount
import Derived.Test.YtpbnnmfjahckmaaCtLaws
namespace Go.Proofs.Ytpbnnmfjahckmaa
open Go.RowKit
open Cg
theorem chk_brs : chk 2 1 brs = 0 := by decide
namespace Cg
theorem cnt_lr {ps : List Pd} {M E : Nat → Bool} {F : Nat → Wd} {nt : Nat} (hn : Nf nt ps E F) (hnt : nt < 64) (hM : ClM ps true M) (hE : ClM ps false E) (hF : ClF ps M E F) (hok : ∀ p ∈ ps, ∀ s ∈ p.2, s.1 = 1 ∨ s.1 = 2) {w : List Int} (hw : ∀ x ∈ w, 0 ≤ x ∧ x < (nt : Int)) : cnt ps w 0 0 w.length ≤ 1 := by
  rcases Nat.lt_or_ge (cnt ps w 0 0 w.length) 2 with h | h
  · omega
  · obtain ⟨t, u, hne, ht, hu⟩ := cc_two.1 h
    obtain ⟨t1, t2, t3⟩ := sp_whole.1 ht
    obtain ⟨u1, u2, u3⟩ := sp_whole.1 hu
    exact absurd (lr_one hn hnt hM hE hF hok t1 u1 (by rw [t2, nums_length]) (by rw [u2, nums_length]) (by rw [t3, u3]) (by rw [t3]; exact hw)) hne
end Cg
set_option maxRecDepth 40000 in
open Go.ChangeShapes Go.WideShapes Go.ChangeAt Go.RowKit in
theorem open_intsv {H : Type} {enc : TypeId × Value → H} {W : World} {r : Reach} {b0 : Nat} {v : Value} {d : DataW H} {p : List MemPlace} (hv : Value.okWide Try.prog W r b0 29 v) (h : DataW.Trod enc Try.prog W 0 (fun _ => true) true 29 v d p) : ∃ l, Ints W v l := by
  obtain ⟨fuel, hf⟩ := h
  have hc : v.cells = #[v] := by
    obtain ⟨a, n, c, rfl⟩ := okWide_slice Try.underlying29 hv
    rfl
  rw [hc] at hf
  obtain ⟨u, l, e, hl⟩ := open_ints hf
  cases e
  exact ⟨l, hl⟩
end Go.Proofs.Ytpbnnmfjahckmaa
