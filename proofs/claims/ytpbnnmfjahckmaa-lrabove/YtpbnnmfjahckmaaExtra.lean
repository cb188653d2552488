/-
  What the claim of LrOne did without.
-/
import Derived.Test.YtpbnnmfjahckmaaGrF
import Derived.Test.YtpbnnmfjahckmaaMkHold
import Derived.Test.YtpbnnmfjahckmaaIxOpen
import Derived.Test.YtpbnnmfjahckmaaTrLlOne
namespace Go.Proofs.Ytpbnnmfjahckmaa
open Go.RowKit Go.Proofs.Ytpbnnmfjahckmaa.Cg Go.ChangeShapes Go.WideShapes Go.ChangeAt
/-- It lies in memory that is no elder. -/
def Fr (B : Nat) (v : Value) : Prop := ∀ k, v.ownBlock = some k → B ≤ k
end Go.Proofs.Ytpbnnmfjahckmaa
namespace Go.Proofs.Ytpbnnmfjahckmaa
open Go.RowKit Go.Proofs.Ytpbnnmfjahckmaa.Cg Go.ChangeShapes Go.WideShapes Go.ChangeAt
theorem Fr.less {B C : Nat} {v : Value} (h : Fr B v) (hc : C ≤ B) : Fr C v := fun k hk => Nat.le_trans hc (h k hk)
end Go.Proofs.Ytpbnnmfjahckmaa
