/-
  No cell of these rows narrows 'for every input' (looked for: loops, veiled, ifaces, maps, wideKeys, modest, calm, conditions, laid).
  DERIVED. THE GIVEN ROWS OF THIS SEAT. 2 by the template 'for every input the law returns true; each argument reads behind the call as it read before'; 0 by the template 'total and deterministic' (their statements: YtjdaijghfipecaaTotals.lean).
  GIVEN WITH THE SEED: the statements are not yours to turn. If you find one false, say at which input.
  Laid BY PROGRAM, IN A SANDBOX (cutbox-rows.mjs): the forced cells as the released guide's own fill.sh prints them over the translation b1c7fce8e40b99a1… (all of the seat's roots in one cut). By AI agents, Wed Nov 11 2026. No macro, syntax, notation, axiom, sorry.
-/
import Derived.Test.YtjdaijghfipecaaChecked
import GoSem.Claim
import GoSem.ClaimJoined
import GoSem.ClaimMapViews
import Derived.JoinedTies
import Derived.KernelRfl
namespace Go.Proofs.Ytjdaijghfipecaa
/- THE CELL 'sum', in the pinned program and in every row, IS THE sha256 OF THE DUMP (.gsa) THAT YtjdaijghfipecaaProg.lean LOADS. Nothing in Lean hashes anything: it is a label: what it is worth is what the hold of that sum in a sandbox is worth. -/
noncomputable def Try.pinned : Pinned := { name := "ytjdaijghfipecaa", sum := "b1c7fce8e40b99a1d1351abf2997f00dd42e0db78616439717ddedd521bcc264", checked := Try.checked }
namespace Rows
def none {H : Type} : Left H := { results := [], args := [] }

/-- 'pushlaw.FactsSays': WHATEVER THE INPUT: true; the input reads as it did. -/
def factsSaysSpec : ChangeSpec := { name := "factsSays", fn := fun _ => fun
  | [d1, d2, d3] => { results := [.lit (.bool true)], args := [d1, d2, d3] }
  | _ => none }
def factsSaysRow : OpenClaim := { program := "ytjdaijghfipecaa", sum := "b1c7fce8e40b99a1d1351abf2997f00dd42e0db78616439717ddedd521bcc264", func := "pushmill/pushlaw.FactsSays", spec := "factsSays", unfollowed := true, recurses := true, apart := false }
def FactsSaysSaid : Prop := factsSaysRow.holds Try.pinned (OpenSpec.ofChange factsSaysSpec)

/-- ITS FALSE NEIGHBOUR: 'it returns false'. Refute it at one input. -/
def factsSaysWrong : ChangeSpec := { name := "factsSays", fn := fun _ => fun
  | [d1, d2, d3] => { results := [.lit (.bool false)], args := [d1, d2, d3] }
  | _ => none }
def FactsSaysWrongFalsely : Prop := factsSaysRow.holds Try.pinned (OpenSpec.ofChange factsSaysWrong)

/-- 'pushkeep.FactsBody': WHATEVER THE INPUT: true; the input reads as it did. -/
def factsBodySpec : ChangeSpec := { name := "factsBody", fn := fun _ => fun
  | [d1, d2, d3, d4] => { results := [.lit (.bool true)], args := [d1, d2, d3, d4] }
  | _ => none }
def factsBodyRow : OpenClaim := { program := "ytjdaijghfipecaa", sum := "b1c7fce8e40b99a1d1351abf2997f00dd42e0db78616439717ddedd521bcc264", func := "pushmill/pushkeep.FactsBody", spec := "factsBody", unfollowed := true, recurses := true, apart := false }
def FactsBodySaid : Prop := factsBodyRow.holds Try.pinned (OpenSpec.ofChange factsBodySpec)

/-- ITS FALSE NEIGHBOUR: 'it returns false'. Refute it at one input. -/
def factsBodyWrong : ChangeSpec := { name := "factsBody", fn := fun _ => fun
  | [d1, d2, d3, d4] => { results := [.lit (.bool false)], args := [d1, d2, d3, d4] }
  | _ => none }
def FactsBodyWrongFalsely : Prop := factsBodyRow.holds Try.pinned (OpenSpec.ofChange factsBodyWrong)

/- THE SECOND FORM. 'bulk': how many values and letters a reading holds, each counted each time it is reached (what is shared counts as often as it is met; a slice's spare places count too). A statement '..UptoSaid' is the law's where the arguments, and the package variables that the reading takes, are together of bulk at most 1048576: NARROWER than '..Said'. Prove '..Said' where nothing that the law and all that it calls make is longer than what came in: it says more and counts as full. Else prove '..UptoSaid'. A law counts once. -/
mutual
def uptoBulk {H : Type} : DataW H → Nat
  | .lit (.string bytes) => bytes.length + 1
  | .lit _ => 1
  | .nil => 1
  | .ptr d => uptoBulk d + 1
  | .slice elems spare => uptoBulkAll elems + uptoBulkAll spare + 1
  | .agg parts => uptoBulkAll parts + 1
  | .iface _ d => uptoBulk d + 1
  | .map entries => uptoBulkEntries entries + 1
  | .held _ => 1
def uptoBulkAll {H : Type} : List (DataW H) → Nat
  | [] => 0
  | d :: r => uptoBulk d + uptoBulkAll r
def uptoBulkEntries {H : Type} : List (Lit × DataW H) → Nat
  | [] => 0
  | x :: r => uptoBulkEntry x + uptoBulkEntries r
def uptoBulkEntry {H : Type} : Lit × DataW H → Nat
  | (.string bytes, d) => bytes.length + uptoBulk d + 1
  | (_, d) => uptoBulk d + 1
 end
def uptoSmall : (H : Type) → List (DataW H) → Bool := fun _ ds => decide (uptoBulkAll ds ≤ 1048576)
def OpenSpec.upto (s : _root_.Go.ChangeSpec) : _root_.Go.OpenSpec := { _root_.Go.OpenSpec.ofChange s with cond := some uptoSmall }

/-- 'pushlaw.FactsSays', WHERE WHAT IT READS IS OF BULK AT MOST 1048576: true; the input reads as it did. -/
def factsSaysUptoRow : OpenClaim := { program := "ytjdaijghfipecaa", sum := "b1c7fce8e40b99a1d1351abf2997f00dd42e0db78616439717ddedd521bcc264", func := "pushmill/pushlaw.FactsSays", spec := "factsSays", unfollowed := true, recurses := true, apart := false, narrowed := true }
def FactsSaysUptoSaid : Prop := factsSaysUptoRow.holds Try.pinned (OpenSpec.upto factsSaysSpec)

/-- 'pushkeep.FactsBody', WHERE WHAT IT READS IS OF BULK AT MOST 1048576: true; the input reads as it did. -/
def factsBodyUptoRow : OpenClaim := { program := "ytjdaijghfipecaa", sum := "b1c7fce8e40b99a1d1351abf2997f00dd42e0db78616439717ddedd521bcc264", func := "pushmill/pushkeep.FactsBody", spec := "factsBody", unfollowed := true, recurses := true, apart := false, narrowed := true }
def FactsBodyUptoSaid : Prop := factsBodyUptoRow.holds Try.pinned (OpenSpec.upto factsBodySpec)

end Rows
end Go.Proofs.Ytjdaijghfipecaa
