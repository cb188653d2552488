/-
  The contract of rex.parser's alt, with no premise: no bracket open.
-/
import Derived.Test.YthloedfiomfnbaaPaRep
namespace Go.Proofs.Ythloedfiomfnbaa
open Go.RowKit
open Cls Txt Rex

theorem alt_done (s : ByteArray) (hs : s.size ≤ 300) : PC 26 s (.int .i64 0) (altN s 30) := by
  have h := alt_all s hs (fun k A hG hC => rep_any s hs k A hG hC) 30 (by omega)
  rwa [show (30 : Int) - ((30 : Nat) : Int) = 0 by omega] at h
end Go.Proofs.Ythloedfiomfnbaa
