/-
  No cell of these rows narrows 'for every input' (looked for: loops, veiled, ifaces, maps, wideKeys, modest, calm, conditions, laid).
  DERIVED. THE GIVEN ROWS OF THIS SEAT. 2 by the template 'for every input the law returns true; each argument reads behind the call as it read before'; 0 by the template 'total and deterministic' (their statements: YtmcmidfpglhnmabTotals.lean).
  GIVEN WITH THE SEED: the statements are not yours to turn. If you find one false, say at which input.
  Laid BY PROGRAM, IN A SANDBOX (cutbox-rows.mjs): the forced cells as the released guide's own fill.sh prints them over the translation 53b5274c5aafbc3a… (all of the seat's roots in one cut). By AI agents, Wed Nov 11 2026. No macro, syntax, notation, axiom, sorry.
-/
import Derived.Test.YtmcmidfpglhnmabChecked
import GoSem.Claim
import GoSem.ClaimJoined
import GoSem.ClaimMapViews
import Derived.JoinedTies
import Derived.KernelRfl
namespace Go.Proofs.Ytmcmidfpglhnmab
/- THE CELL 'sum', in the pinned program and in every row, IS THE sha256 OF THE DUMP (.gsa) THAT YtmcmidfpglhnmabProg.lean LOADS. Nothing in Lean hashes anything: it is a label: what it is worth is what the hold of that sum in a sandbox is worth. -/
noncomputable def Try.pinned : Pinned := { name := "ytmcmidfpglhnmab", sum := "53b5274c5aafbc3a7495a9e4e57efe2a0163cf4bd8d39e65e0f0b37ac67bd098", checked := Try.checked }
namespace Rows
def none {H : Type} : Left H := { results := [], args := [] }

/-- 'pushkeep.CountBegins': WHATEVER THE INPUT: true; the input reads as it did. -/
def countBeginsSpec : ChangeSpec := { name := "countBegins", fn := fun _ => fun
  | [d1, d2] => { results := [.lit (.bool true)], args := [d1, d2] }
  | _ => none }
def countBeginsRow : OpenClaim := { program := "ytmcmidfpglhnmab", sum := "53b5274c5aafbc3a7495a9e4e57efe2a0163cf4bd8d39e65e0f0b37ac67bd098", func := "pushmill/pushkeep.CountBegins", spec := "countBegins", apart := false }
def CountBeginsSaid : Prop := countBeginsRow.holds Try.pinned (OpenSpec.ofChange countBeginsSpec)

/-- ITS FALSE NEIGHBOUR: 'it returns false'. Refute it at one input. -/
def countBeginsWrong : ChangeSpec := { name := "countBegins", fn := fun _ => fun
  | [d1, d2] => { results := [.lit (.bool false)], args := [d1, d2] }
  | _ => none }
def CountBeginsWrongFalsely : Prop := countBeginsRow.holds Try.pinned (OpenSpec.ofChange countBeginsWrong)

/-- 'pushkeep.CountMore': WHATEVER THE INPUT: true; the input reads as it did. -/
def countMoreSpec : ChangeSpec := { name := "countMore", fn := fun _ => fun
  | [d1, d2, d3] => { results := [.lit (.bool true)], args := [d1, d2, d3] }
  | _ => none }
def countMoreRow : OpenClaim := { program := "ytmcmidfpglhnmab", sum := "53b5274c5aafbc3a7495a9e4e57efe2a0163cf4bd8d39e65e0f0b37ac67bd098", func := "pushmill/pushkeep.CountMore", spec := "countMore", apart := false }
def CountMoreSaid : Prop := countMoreRow.holds Try.pinned (OpenSpec.ofChange countMoreSpec)

/-- ITS FALSE NEIGHBOUR: 'it returns false'. Refute it at one input. -/
def countMoreWrong : ChangeSpec := { name := "countMore", fn := fun _ => fun
  | [d1, d2, d3] => { results := [.lit (.bool false)], args := [d1, d2, d3] }
  | _ => none }
def CountMoreWrongFalsely : Prop := countMoreRow.holds Try.pinned (OpenSpec.ofChange countMoreWrong)

/- THE SECOND FORM. 'bulk': how many values and letters a reading holds, each counted each time it is reached (what is shared counts as often as it is met; a slice's spare places count too). A statement '..UptoSaid' is the law's where the arguments, and the package variables that the reading takes, are together of bulk at most 1048576: NARROWER than '..Said'. Prove '..Said' where nothing that the law and all that it calls make is longer than what came in: it says more and counts as full. Else prove '..UptoSaid'. A law counts once. -/
mutual
def uptoBulk {H : Type} : DataW H → Nat
  | .lit (.string bytes) => bytes.length + 1
  | .lit _ => 1
  | .nil => 1
  | .ptr d => uptoBulk d + 1
  | .slice elems spare => uptoBulkAll elems + uptoBulkAll spare + 1
  | .agg parts => uptoBulkAll parts + 1
  | .iface _ d => uptoBulk d + 1
  | .map entries => uptoBulkEntries entries + 1
  | .held _ => 1
def uptoBulkAll {H : Type} : List (DataW H) → Nat
  | [] => 0
  | d :: r => uptoBulk d + uptoBulkAll r
def uptoBulkEntries {H : Type} : List (Lit × DataW H) → Nat
  | [] => 0
  | x :: r => uptoBulkEntry x + uptoBulkEntries r
def uptoBulkEntry {H : Type} : Lit × DataW H → Nat
  | (.string bytes, d) => bytes.length + uptoBulk d + 1
  | (_, d) => uptoBulk d + 1
 end
def uptoSmall : (H : Type) → List (DataW H) → Bool := fun _ ds => decide (uptoBulkAll ds ≤ 1048576)
def OpenSpec.upto (s : _root_.Go.ChangeSpec) : _root_.Go.OpenSpec := { _root_.Go.OpenSpec.ofChange s with cond := some uptoSmall }

/-- 'pushkeep.CountBegins', WHERE WHAT IT READS IS OF BULK AT MOST 1048576: true; the input reads as it did. -/
def countBeginsUptoRow : OpenClaim := { program := "ytmcmidfpglhnmab", sum := "53b5274c5aafbc3a7495a9e4e57efe2a0163cf4bd8d39e65e0f0b37ac67bd098", func := "pushmill/pushkeep.CountBegins", spec := "countBegins", apart := false, narrowed := true }
def CountBeginsUptoSaid : Prop := countBeginsUptoRow.holds Try.pinned (OpenSpec.upto countBeginsSpec)

/-- 'pushkeep.CountMore', WHERE WHAT IT READS IS OF BULK AT MOST 1048576: true; the input reads as it did. -/
def countMoreUptoRow : OpenClaim := { program := "ytmcmidfpglhnmab", sum := "53b5274c5aafbc3a7495a9e4e57efe2a0163cf4bd8d39e65e0f0b37ac67bd098", func := "pushmill/pushkeep.CountMore", spec := "countMore", apart := false, narrowed := true }
def CountMoreUptoSaid : Prop := countMoreUptoRow.holds Try.pinned (OpenSpec.upto countMoreSpec)

end Rows
end Go.Proofs.Ytmcmidfpglhnmab
