/-
  NARROWER THAN 'FOR EVERY INPUT', by the rows' own cells (each row's printed sentence says how): TreesWord: loops.
  DERIVED. THE GIVEN ROWS OF THIS SEAT. 6 by the template 'for every input the law returns true; each argument reads behind the call as it read before'; 0 by the template 'total and deterministic' (their statements: YtmcmidfpglhnmaaTotals.lean).
  GIVEN WITH THE SEED: the statements are not yours to turn. If you find one false, say at which input.
  Laid BY PROGRAM, IN A SANDBOX (cutbox-rows.mjs): the forced cells as the released guide's own fill.sh prints them over the translation a29c79870a34721b… (all of the seat's roots in one cut). By AI agents, Wed Nov 11 2026. No macro, syntax, notation, axiom, sorry.
-/
import Derived.Test.YtmcmidfpglhnmaaChecked
import GoSem.Claim
import GoSem.ClaimJoined
import GoSem.ClaimMapViews
import Derived.JoinedTies
import Derived.KernelRfl
namespace Go.Proofs.Ytmcmidfpglhnmaa
/- THE CELL 'sum', in the pinned program and in every row, IS THE sha256 OF THE DUMP (.gsa) THAT YtmcmidfpglhnmaaProg.lean LOADS. Nothing in Lean hashes anything: it is a label: what it is worth is what the hold of that sum in a sandbox is worth. -/
noncomputable def Try.pinned : Pinned := { name := "ytmcmidfpglhnmaa", sum := "a29c79870a34721b1641370074f00befe67f5606ff91eeef79c50cec40e20f32", checked := Try.checked }
namespace Rows
def none {H : Type} : Left H := { results := [], args := [] }

/-- 'pushlaw.CountSays': WHATEVER THE INPUT: true; the input reads as it did. -/
def countSaysSpec : ChangeSpec := { name := "countSays", fn := fun _ => fun
  | [d1, d2] => { results := [.lit (.bool true)], args := [d1, d2] }
  | _ => none }
def countSaysRow : OpenClaim := { program := "ytmcmidfpglhnmaa", sum := "a29c79870a34721b1641370074f00befe67f5606ff91eeef79c50cec40e20f32", func := "pushmill/pushlaw.CountSays", spec := "countSays", unfollowed := true, recurses := true, apart := false }
def CountSaysSaid : Prop := countSaysRow.holds Try.pinned (OpenSpec.ofChange countSaysSpec)

/-- ITS FALSE NEIGHBOUR: 'it returns false'. Refute it at one input. -/
def countSaysWrong : ChangeSpec := { name := "countSays", fn := fun _ => fun
  | [d1, d2] => { results := [.lit (.bool false)], args := [d1, d2] }
  | _ => none }
def CountSaysWrongFalsely : Prop := countSaysRow.holds Try.pinned (OpenSpec.ofChange countSaysWrong)

/-- 'pushkeep.FactsWord': WHATEVER THE INPUT: true; the input reads as it did. -/
def factsWordSpec : ChangeSpec := { name := "factsWord", fn := fun _ => fun
  | [d1, d2] => { results := [.lit (.bool true)], args := [d1, d2] }
  | _ => none }
def factsWordRow : OpenClaim := { program := "ytmcmidfpglhnmaa", sum := "a29c79870a34721b1641370074f00befe67f5606ff91eeef79c50cec40e20f32", func := "pushmill/pushkeep.FactsWord", spec := "factsWord", unfollowed := true, recurses := true, apart := false }
def FactsWordSaid : Prop := factsWordRow.holds Try.pinned (OpenSpec.ofChange factsWordSpec)

/-- ITS FALSE NEIGHBOUR: 'it returns false'. Refute it at one input. -/
def factsWordWrong : ChangeSpec := { name := "factsWord", fn := fun _ => fun
  | [d1, d2] => { results := [.lit (.bool false)], args := [d1, d2] }
  | _ => none }
def FactsWordWrongFalsely : Prop := factsWordRow.holds Try.pinned (OpenSpec.ofChange factsWordWrong)

/-- 'pushkeep.LlOne': WHATEVER THE INPUT: true; the input reads as it did. -/
def llOneSpec : ChangeSpec := { name := "llOne", fn := fun _ => fun
  | [d1, d2] => { results := [.lit (.bool true)], args := [d1, d2] }
  | _ => none }
def llOneRow : OpenClaim := { program := "ytmcmidfpglhnmaa", sum := "a29c79870a34721b1641370074f00befe67f5606ff91eeef79c50cec40e20f32", func := "pushmill/pushkeep.LlOne", spec := "llOne", unfollowed := true, recurses := true, apart := false }
def LlOneSaid : Prop := llOneRow.holds Try.pinned (OpenSpec.ofChange llOneSpec)

/-- ITS FALSE NEIGHBOUR: 'it returns false'. Refute it at one input. -/
def llOneWrong : ChangeSpec := { name := "llOne", fn := fun _ => fun
  | [d1, d2] => { results := [.lit (.bool false)], args := [d1, d2] }
  | _ => none }
def LlOneWrongFalsely : Prop := llOneRow.holds Try.pinned (OpenSpec.ofChange llOneWrong)

/-- 'pushkeep.TreesWord': WHATEVER THE INPUT: true; the input reads as it did. -/
def treesWordSpec : ChangeSpec := { name := "treesWord", fn := fun _ => fun
  | [d1, d2] => { results := [.lit (.bool true)], args := [d1, d2] }
  | _ => none }
def treesWordRow : OpenClaim := { program := "ytmcmidfpglhnmaa", sum := "a29c79870a34721b1641370074f00befe67f5606ff91eeef79c50cec40e20f32", func := "pushmill/pushkeep.TreesWord", spec := "treesWord", recurses := true, loops := true, apart := false }
def TreesWordSaid : Prop := treesWordRow.holds Try.pinned (OpenSpec.ofChange treesWordSpec)

/-- ITS FALSE NEIGHBOUR: 'it returns false'. Refute it at one input. -/
def treesWordWrong : ChangeSpec := { name := "treesWord", fn := fun _ => fun
  | [d1, d2] => { results := [.lit (.bool false)], args := [d1, d2] }
  | _ => none }
def TreesWordWrongFalsely : Prop := treesWordRow.holds Try.pinned (OpenSpec.ofChange treesWordWrong)

/-- 'pushkeep.CountOnly': WHATEVER THE INPUT: true; the input reads as it did. -/
def countOnlySpec : ChangeSpec := { name := "countOnly", fn := fun _ => fun
  | [d1, d2] => { results := [.lit (.bool true)], args := [d1, d2] }
  | _ => none }
def countOnlyRow : OpenClaim := { program := "ytmcmidfpglhnmaa", sum := "a29c79870a34721b1641370074f00befe67f5606ff91eeef79c50cec40e20f32", func := "pushmill/pushkeep.CountOnly", spec := "countOnly", recurses := true, apart := false }
def CountOnlySaid : Prop := countOnlyRow.holds Try.pinned (OpenSpec.ofChange countOnlySpec)

/-- ITS FALSE NEIGHBOUR: 'it returns false'. Refute it at one input. -/
def countOnlyWrong : ChangeSpec := { name := "countOnly", fn := fun _ => fun
  | [d1, d2] => { results := [.lit (.bool false)], args := [d1, d2] }
  | _ => none }
def CountOnlyWrongFalsely : Prop := countOnlyRow.holds Try.pinned (OpenSpec.ofChange countOnlyWrong)

/-- 'pushkeep.CountMirror': WHATEVER THE INPUT: true; the input reads as it did. -/
def countMirrorSpec : ChangeSpec := { name := "countMirror", fn := fun _ => fun
  | [d1, d2] => { results := [.lit (.bool true)], args := [d1, d2] }
  | _ => none }
def countMirrorRow : OpenClaim := { program := "ytmcmidfpglhnmaa", sum := "a29c79870a34721b1641370074f00befe67f5606ff91eeef79c50cec40e20f32", func := "pushmill/pushkeep.CountMirror", spec := "countMirror", apart := false }
def CountMirrorSaid : Prop := countMirrorRow.holds Try.pinned (OpenSpec.ofChange countMirrorSpec)

/-- ITS FALSE NEIGHBOUR: 'it returns false'. Refute it at one input. -/
def countMirrorWrong : ChangeSpec := { name := "countMirror", fn := fun _ => fun
  | [d1, d2] => { results := [.lit (.bool false)], args := [d1, d2] }
  | _ => none }
def CountMirrorWrongFalsely : Prop := countMirrorRow.holds Try.pinned (OpenSpec.ofChange countMirrorWrong)

/- THE SECOND FORM. 'bulk': how many values and letters a reading holds, each counted each time it is reached (what is shared counts as often as it is met; a slice's spare places count too). A statement '..UptoSaid' is the law's where the arguments, and the package variables that the reading takes, are together of bulk at most 1048576: NARROWER than '..Said'. Prove '..Said' where nothing that the law and all that it calls make is longer than what came in: it says more and counts as full. Else prove '..UptoSaid'. A law counts once. -/
mutual
def uptoBulk {H : Type} : DataW H → Nat
  | .lit (.string bytes) => bytes.length + 1
  | .lit _ => 1
  | .nil => 1
  | .ptr d => uptoBulk d + 1
  | .slice elems spare => uptoBulkAll elems + uptoBulkAll spare + 1
  | .agg parts => uptoBulkAll parts + 1
  | .iface _ d => uptoBulk d + 1
  | .map entries => uptoBulkEntries entries + 1
  | .held _ => 1
def uptoBulkAll {H : Type} : List (DataW H) → Nat
  | [] => 0
  | d :: r => uptoBulk d + uptoBulkAll r
def uptoBulkEntries {H : Type} : List (Lit × DataW H) → Nat
  | [] => 0
  | x :: r => uptoBulkEntry x + uptoBulkEntries r
def uptoBulkEntry {H : Type} : Lit × DataW H → Nat
  | (.string bytes, d) => bytes.length + uptoBulk d + 1
  | (_, d) => uptoBulk d + 1
 end
def uptoSmall : (H : Type) → List (DataW H) → Bool := fun _ ds => decide (uptoBulkAll ds ≤ 1048576)
def OpenSpec.upto (s : _root_.Go.ChangeSpec) : _root_.Go.OpenSpec := { _root_.Go.OpenSpec.ofChange s with cond := some uptoSmall }

/-- 'pushlaw.CountSays', WHERE WHAT IT READS IS OF BULK AT MOST 1048576: true; the input reads as it did. -/
def countSaysUptoRow : OpenClaim := { program := "ytmcmidfpglhnmaa", sum := "a29c79870a34721b1641370074f00befe67f5606ff91eeef79c50cec40e20f32", func := "pushmill/pushlaw.CountSays", spec := "countSays", unfollowed := true, recurses := true, apart := false, narrowed := true }
def CountSaysUptoSaid : Prop := countSaysUptoRow.holds Try.pinned (OpenSpec.upto countSaysSpec)

/-- 'pushkeep.FactsWord', WHERE WHAT IT READS IS OF BULK AT MOST 1048576: true; the input reads as it did. -/
def factsWordUptoRow : OpenClaim := { program := "ytmcmidfpglhnmaa", sum := "a29c79870a34721b1641370074f00befe67f5606ff91eeef79c50cec40e20f32", func := "pushmill/pushkeep.FactsWord", spec := "factsWord", unfollowed := true, recurses := true, apart := false, narrowed := true }
def FactsWordUptoSaid : Prop := factsWordUptoRow.holds Try.pinned (OpenSpec.upto factsWordSpec)

/-- 'pushkeep.LlOne', WHERE WHAT IT READS IS OF BULK AT MOST 1048576: true; the input reads as it did. -/
def llOneUptoRow : OpenClaim := { program := "ytmcmidfpglhnmaa", sum := "a29c79870a34721b1641370074f00befe67f5606ff91eeef79c50cec40e20f32", func := "pushmill/pushkeep.LlOne", spec := "llOne", unfollowed := true, recurses := true, apart := false, narrowed := true }
def LlOneUptoSaid : Prop := llOneUptoRow.holds Try.pinned (OpenSpec.upto llOneSpec)

/-- 'pushkeep.TreesWord', WHERE WHAT IT READS IS OF BULK AT MOST 1048576: true; the input reads as it did. -/
def treesWordUptoRow : OpenClaim := { program := "ytmcmidfpglhnmaa", sum := "a29c79870a34721b1641370074f00befe67f5606ff91eeef79c50cec40e20f32", func := "pushmill/pushkeep.TreesWord", spec := "treesWord", recurses := true, loops := true, apart := false, narrowed := true }
def TreesWordUptoSaid : Prop := treesWordUptoRow.holds Try.pinned (OpenSpec.upto treesWordSpec)

/-- 'pushkeep.CountOnly', WHERE WHAT IT READS IS OF BULK AT MOST 1048576: true; the input reads as it did. -/
def countOnlyUptoRow : OpenClaim := { program := "ytmcmidfpglhnmaa", sum := "a29c79870a34721b1641370074f00befe67f5606ff91eeef79c50cec40e20f32", func := "pushmill/pushkeep.CountOnly", spec := "countOnly", recurses := true, apart := false, narrowed := true }
def CountOnlyUptoSaid : Prop := countOnlyUptoRow.holds Try.pinned (OpenSpec.upto countOnlySpec)

/-- 'pushkeep.CountMirror', WHERE WHAT IT READS IS OF BULK AT MOST 1048576: true; the input reads as it did. -/
def countMirrorUptoRow : OpenClaim := { program := "ytmcmidfpglhnmaa", sum := "a29c79870a34721b1641370074f00befe67f5606ff91eeef79c50cec40e20f32", func := "pushmill/pushkeep.CountMirror", spec := "countMirror", apart := false, narrowed := true }
def CountMirrorUptoSaid : Prop := countMirrorUptoRow.holds Try.pinned (OpenSpec.upto countMirrorSpec)

end Rows
end Go.Proofs.Ytmcmidfpglhnmaa
