/-
  NARROWER THAN 'FOR EVERY INPUT', by the rows' own cells (each row's printed sentence says how): RexMatches: loops · RexAlgebra: loops · RexSplits: loops · RexStars: loops · RexTurned: loops.
  DERIVED. THE GIVEN ROWS OF THIS SEAT. 5 by the template 'for every input the law returns true; each argument reads behind the call as it read before'; 0 by the template 'total and deterministic' (their statements: YtdnagboonjcehaaTotals.lean).
  GIVEN WITH THE SEED: the statements are not yours to turn. If you find one false, say at which input.
  Laid BY PROGRAM, IN A SANDBOX (cutbox-rows.mjs): the forced cells as the released guide's own fill.sh prints them over the translation 26d2306dd0a282a2… (all of the seat's roots in one cut). By AI agents, Wed Nov 11 2026. No macro, syntax, notation, axiom, sorry.
-/
import Derived.Test.YtdnagboonjcehaaChecked
import GoSem.Claim
import GoSem.ClaimJoined
import GoSem.ClaimMapViews
import Derived.JoinedTies
import Derived.KernelRfl
namespace Go.Proofs.Ytdnagboonjcehaa
/- THE CELL 'sum', in the pinned program and in every row, IS THE sha256 OF THE DUMP (.gsa) THAT YtdnagboonjcehaaProg.lean LOADS. Nothing in Lean hashes anything: it is a label: what it is worth is what the hold of that sum in a sandbox is worth. -/
noncomputable def Try.pinned : Pinned := { name := "ytdnagboonjcehaa", sum := "26d2306dd0a282a24677fd4238102b840c042c9a1c6e38fd983ccc7de6b8b3ac", checked := Try.checked }
namespace Rows
def none {H : Type} : Left H := { results := [], args := [] }

/-- 'pushlaw.RexMatches': WHATEVER THE INPUT: true; the input reads as it did. -/
def rexMatchesSpec : ChangeSpec := { name := "rexMatches", fn := fun _ => fun
  | [d1, d2] => { results := [.lit (.bool true)], args := [d1, d2] }
  | _ => none }
def rexMatchesRow : OpenClaim := { program := "ytdnagboonjcehaa", sum := "26d2306dd0a282a24677fd4238102b840c042c9a1c6e38fd983ccc7de6b8b3ac", func := "pushmill/pushlaw.RexMatches", spec := "rexMatches", recurses := true, loops := true, plainKeys := false, apart := false }
def RexMatchesSaid : Prop := rexMatchesRow.holds Try.pinned (OpenSpec.ofChange rexMatchesSpec)

/-- ITS FALSE NEIGHBOUR: 'it returns false'. Refute it at one input. -/
def rexMatchesWrong : ChangeSpec := { name := "rexMatches", fn := fun _ => fun
  | [d1, d2] => { results := [.lit (.bool false)], args := [d1, d2] }
  | _ => none }
def RexMatchesWrongFalsely : Prop := rexMatchesRow.holds Try.pinned (OpenSpec.ofChange rexMatchesWrong)

/-- 'pushkeep.RexAlgebra': WHATEVER THE INPUT: true; the input reads as it did. -/
def rexAlgebraSpec : ChangeSpec := { name := "rexAlgebra", fn := fun _ => fun
  | [d1, d2, d3] => { results := [.lit (.bool true)], args := [d1, d2, d3] }
  | _ => none }
def rexAlgebraRow : OpenClaim := { program := "ytdnagboonjcehaa", sum := "26d2306dd0a282a24677fd4238102b840c042c9a1c6e38fd983ccc7de6b8b3ac", func := "pushmill/pushkeep.RexAlgebra", spec := "rexAlgebra", recurses := true, loops := true, plainKeys := false, apart := false }
def RexAlgebraSaid : Prop := rexAlgebraRow.holds Try.pinned (OpenSpec.ofChange rexAlgebraSpec)

/-- ITS FALSE NEIGHBOUR: 'it returns false'. Refute it at one input. -/
def rexAlgebraWrong : ChangeSpec := { name := "rexAlgebra", fn := fun _ => fun
  | [d1, d2, d3] => { results := [.lit (.bool false)], args := [d1, d2, d3] }
  | _ => none }
def RexAlgebraWrongFalsely : Prop := rexAlgebraRow.holds Try.pinned (OpenSpec.ofChange rexAlgebraWrong)

/-- 'pushkeep.RexSplits': WHATEVER THE INPUT: true; the input reads as it did. -/
def rexSplitsSpec : ChangeSpec := { name := "rexSplits", fn := fun _ => fun
  | [d1, d2, d3] => { results := [.lit (.bool true)], args := [d1, d2, d3] }
  | _ => none }
def rexSplitsRow : OpenClaim := { program := "ytdnagboonjcehaa", sum := "26d2306dd0a282a24677fd4238102b840c042c9a1c6e38fd983ccc7de6b8b3ac", func := "pushmill/pushkeep.RexSplits", spec := "rexSplits", recurses := true, loops := true, plainKeys := false, apart := false }
def RexSplitsSaid : Prop := rexSplitsRow.holds Try.pinned (OpenSpec.ofChange rexSplitsSpec)

/-- ITS FALSE NEIGHBOUR: 'it returns false'. Refute it at one input. -/
def rexSplitsWrong : ChangeSpec := { name := "rexSplits", fn := fun _ => fun
  | [d1, d2, d3] => { results := [.lit (.bool false)], args := [d1, d2, d3] }
  | _ => none }
def RexSplitsWrongFalsely : Prop := rexSplitsRow.holds Try.pinned (OpenSpec.ofChange rexSplitsWrong)

/-- 'pushkeep.RexStars': WHATEVER THE INPUT: true; the input reads as it did. -/
def rexStarsSpec : ChangeSpec := { name := "rexStars", fn := fun _ => fun
  | [d1, d2] => { results := [.lit (.bool true)], args := [d1, d2] }
  | _ => none }
def rexStarsRow : OpenClaim := { program := "ytdnagboonjcehaa", sum := "26d2306dd0a282a24677fd4238102b840c042c9a1c6e38fd983ccc7de6b8b3ac", func := "pushmill/pushkeep.RexStars", spec := "rexStars", recurses := true, loops := true, plainKeys := false, apart := false }
def RexStarsSaid : Prop := rexStarsRow.holds Try.pinned (OpenSpec.ofChange rexStarsSpec)

/-- ITS FALSE NEIGHBOUR: 'it returns false'. Refute it at one input. -/
def rexStarsWrong : ChangeSpec := { name := "rexStars", fn := fun _ => fun
  | [d1, d2] => { results := [.lit (.bool false)], args := [d1, d2] }
  | _ => none }
def RexStarsWrongFalsely : Prop := rexStarsRow.holds Try.pinned (OpenSpec.ofChange rexStarsWrong)

/-- 'pushkeep.RexTurned': WHATEVER THE INPUT: true; the input reads as it did. -/
def rexTurnedSpec : ChangeSpec := { name := "rexTurned", fn := fun _ => fun
  | [d1, d2] => { results := [.lit (.bool true)], args := [d1, d2] }
  | _ => none }
def rexTurnedRow : OpenClaim := { program := "ytdnagboonjcehaa", sum := "26d2306dd0a282a24677fd4238102b840c042c9a1c6e38fd983ccc7de6b8b3ac", func := "pushmill/pushkeep.RexTurned", spec := "rexTurned", recurses := true, loops := true, plainKeys := false, apart := false }
def RexTurnedSaid : Prop := rexTurnedRow.holds Try.pinned (OpenSpec.ofChange rexTurnedSpec)

/-- ITS FALSE NEIGHBOUR: 'it returns false'. Refute it at one input. -/
def rexTurnedWrong : ChangeSpec := { name := "rexTurned", fn := fun _ => fun
  | [d1, d2] => { results := [.lit (.bool false)], args := [d1, d2] }
  | _ => none }
def RexTurnedWrongFalsely : Prop := rexTurnedRow.holds Try.pinned (OpenSpec.ofChange rexTurnedWrong)

/- THE SECOND FORM. 'bulk': how many values and letters a reading holds, each counted each time it is reached (what is shared counts as often as it is met; a slice's spare places count too). A statement '..UptoSaid' is the law's where the arguments, and the package variables that the reading takes, are together of bulk at most 1048576: NARROWER than '..Said'. Prove '..Said' where nothing that the law and all that it calls make is longer than what came in: it says more and counts as full. Else prove '..UptoSaid'. A law counts once. -/
mutual
def uptoBulk {H : Type} : DataW H → Nat
  | .lit (.string bytes) => bytes.length + 1
  | .lit _ => 1
  | .nil => 1
  | .ptr d => uptoBulk d + 1
  | .slice elems spare => uptoBulkAll elems + uptoBulkAll spare + 1
  | .agg parts => uptoBulkAll parts + 1
  | .iface _ d => uptoBulk d + 1
  | .map entries => uptoBulkEntries entries + 1
  | .held _ => 1
def uptoBulkAll {H : Type} : List (DataW H) → Nat
  | [] => 0
  | d :: r => uptoBulk d + uptoBulkAll r
def uptoBulkEntries {H : Type} : List (Lit × DataW H) → Nat
  | [] => 0
  | x :: r => uptoBulkEntry x + uptoBulkEntries r
def uptoBulkEntry {H : Type} : Lit × DataW H → Nat
  | (.string bytes, d) => bytes.length + uptoBulk d + 1
  | (_, d) => uptoBulk d + 1
 end
def uptoSmall : (H : Type) → List (DataW H) → Bool := fun _ ds => decide (uptoBulkAll ds ≤ 1048576)
def OpenSpec.upto (s : _root_.Go.ChangeSpec) : _root_.Go.OpenSpec := { _root_.Go.OpenSpec.ofChange s with cond := some uptoSmall }

/-- 'pushlaw.RexMatches', WHERE WHAT IT READS IS OF BULK AT MOST 1048576: true; the input reads as it did. -/
def rexMatchesUptoRow : OpenClaim := { program := "ytdnagboonjcehaa", sum := "26d2306dd0a282a24677fd4238102b840c042c9a1c6e38fd983ccc7de6b8b3ac", func := "pushmill/pushlaw.RexMatches", spec := "rexMatches", recurses := true, loops := true, plainKeys := false, apart := false, narrowed := true }
def RexMatchesUptoSaid : Prop := rexMatchesUptoRow.holds Try.pinned (OpenSpec.upto rexMatchesSpec)

/-- 'pushkeep.RexAlgebra', WHERE WHAT IT READS IS OF BULK AT MOST 1048576: true; the input reads as it did. -/
def rexAlgebraUptoRow : OpenClaim := { program := "ytdnagboonjcehaa", sum := "26d2306dd0a282a24677fd4238102b840c042c9a1c6e38fd983ccc7de6b8b3ac", func := "pushmill/pushkeep.RexAlgebra", spec := "rexAlgebra", recurses := true, loops := true, plainKeys := false, apart := false, narrowed := true }
def RexAlgebraUptoSaid : Prop := rexAlgebraUptoRow.holds Try.pinned (OpenSpec.upto rexAlgebraSpec)

/-- 'pushkeep.RexSplits', WHERE WHAT IT READS IS OF BULK AT MOST 1048576: true; the input reads as it did. -/
def rexSplitsUptoRow : OpenClaim := { program := "ytdnagboonjcehaa", sum := "26d2306dd0a282a24677fd4238102b840c042c9a1c6e38fd983ccc7de6b8b3ac", func := "pushmill/pushkeep.RexSplits", spec := "rexSplits", recurses := true, loops := true, plainKeys := false, apart := false, narrowed := true }
def RexSplitsUptoSaid : Prop := rexSplitsUptoRow.holds Try.pinned (OpenSpec.upto rexSplitsSpec)

/-- 'pushkeep.RexStars', WHERE WHAT IT READS IS OF BULK AT MOST 1048576: true; the input reads as it did. -/
def rexStarsUptoRow : OpenClaim := { program := "ytdnagboonjcehaa", sum := "26d2306dd0a282a24677fd4238102b840c042c9a1c6e38fd983ccc7de6b8b3ac", func := "pushmill/pushkeep.RexStars", spec := "rexStars", recurses := true, loops := true, plainKeys := false, apart := false, narrowed := true }
def RexStarsUptoSaid : Prop := rexStarsUptoRow.holds Try.pinned (OpenSpec.upto rexStarsSpec)

/-- 'pushkeep.RexTurned', WHERE WHAT IT READS IS OF BULK AT MOST 1048576: true; the input reads as it did. -/
def rexTurnedUptoRow : OpenClaim := { program := "ytdnagboonjcehaa", sum := "26d2306dd0a282a24677fd4238102b840c042c9a1c6e38fd983ccc7de6b8b3ac", func := "pushmill/pushkeep.RexTurned", spec := "rexTurned", recurses := true, loops := true, plainKeys := false, apart := false, narrowed := true }
def RexTurnedUptoSaid : Prop := rexTurnedUptoRow.holds Try.pinned (OpenSpec.upto rexTurnedSpec)

end Rows
end Go.Proofs.Ytdnagboonjcehaa
