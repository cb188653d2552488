/-
  NARROWER THAN 'FOR EVERY INPUT', by the rows' own cells (each row's printed sentence says how): TreesSays: loops · FactsTree: loops · LlTree: loops · TreesBack: loops.
  DERIVED. THE GIVEN ROWS OF THIS SEAT. 6 by the template 'for every input the law returns true; each argument reads behind the call as it read before'; 0 by the template 'total and deterministic' (their statements: YtldfiofgknmcgaaTotals.lean).
  GIVEN WITH THE SEED: the statements are not yours to turn. If you find one false, say at which input.
  Laid BY PROGRAM, IN A SANDBOX (cutbox-rows.mjs): the forced cells as the released guide's own fill.sh prints them over the translation f8a0ef5f1922013e… (all of the seat's roots in one cut). By AI agents, Wed Nov 11 2026. No macro, syntax, notation, axiom, sorry.
-/
import Derived.Test.YtldfiofgknmcgaaChecked
import GoSem.Claim
import GoSem.ClaimJoined
import GoSem.ClaimMapViews
import Derived.JoinedTies
import Derived.KernelRfl
namespace Go.Proofs.Ytldfiofgknmcgaa
/- THE CELL 'sum', in the pinned program and in every row, IS THE sha256 OF THE DUMP (.gsa) THAT YtldfiofgknmcgaaProg.lean LOADS. Nothing in Lean hashes anything: it is a label: what it is worth is what the hold of that sum in a sandbox is worth. -/
noncomputable def Try.pinned : Pinned := { name := "ytldfiofgknmcgaa", sum := "f8a0ef5f1922013e26bea4e3e7f83ad56f0ecd7cb680fe0c5707ac472eeba985", checked := Try.checked }
namespace Rows
def none {H : Type} : Left H := { results := [], args := [] }

/-- 'pushlaw.TreesSays': WHATEVER THE INPUT: true; the input reads as it did. -/
def treesSaysSpec : ChangeSpec := { name := "treesSays", fn := fun _ => fun
  | [d1, d2] => { results := [.lit (.bool true)], args := [d1, d2] }
  | _ => none }
def treesSaysRow : OpenClaim := { program := "ytldfiofgknmcgaa", sum := "f8a0ef5f1922013e26bea4e3e7f83ad56f0ecd7cb680fe0c5707ac472eeba985", func := "pushmill/pushlaw.TreesSays", spec := "treesSays", unfollowed := true, recurses := true, loops := true, apart := false }
def TreesSaysSaid : Prop := treesSaysRow.holds Try.pinned (OpenSpec.ofChange treesSaysSpec)

/-- ITS FALSE NEIGHBOUR: 'it returns false'. Refute it at one input. -/
def treesSaysWrong : ChangeSpec := { name := "treesSays", fn := fun _ => fun
  | [d1, d2] => { results := [.lit (.bool false)], args := [d1, d2] }
  | _ => none }
def TreesSaysWrongFalsely : Prop := treesSaysRow.holds Try.pinned (OpenSpec.ofChange treesSaysWrong)

/-- 'pushlaw.TreesReads': WHATEVER THE INPUT: true; the input reads as it did. -/
def treesReadsSpec : ChangeSpec := { name := "treesReads", fn := fun _ => fun
  | [d1, d2] => { results := [.lit (.bool true)], args := [d1, d2] }
  | _ => none }
def treesReadsRow : OpenClaim := { program := "ytldfiofgknmcgaa", sum := "f8a0ef5f1922013e26bea4e3e7f83ad56f0ecd7cb680fe0c5707ac472eeba985", func := "pushmill/pushlaw.TreesReads", spec := "treesReads", unfollowed := true, recurses := true, apart := false }
def TreesReadsSaid : Prop := treesReadsRow.holds Try.pinned (OpenSpec.ofChange treesReadsSpec)

/-- ITS FALSE NEIGHBOUR: 'it returns false'. Refute it at one input. -/
def treesReadsWrong : ChangeSpec := { name := "treesReads", fn := fun _ => fun
  | [d1, d2] => { results := [.lit (.bool false)], args := [d1, d2] }
  | _ => none }
def TreesReadsWrongFalsely : Prop := treesReadsRow.holds Try.pinned (OpenSpec.ofChange treesReadsWrong)

/-- 'pushkeep.FactsTree': WHATEVER THE INPUT: true; the input reads as it did. -/
def factsTreeSpec : ChangeSpec := { name := "factsTree", fn := fun _ => fun
  | [d1, d2] => { results := [.lit (.bool true)], args := [d1, d2] }
  | _ => none }
def factsTreeRow : OpenClaim := { program := "ytldfiofgknmcgaa", sum := "f8a0ef5f1922013e26bea4e3e7f83ad56f0ecd7cb680fe0c5707ac472eeba985", func := "pushmill/pushkeep.FactsTree", spec := "factsTree", unfollowed := true, recurses := true, loops := true, apart := false }
def FactsTreeSaid : Prop := factsTreeRow.holds Try.pinned (OpenSpec.ofChange factsTreeSpec)

/-- ITS FALSE NEIGHBOUR: 'it returns false'. Refute it at one input. -/
def factsTreeWrong : ChangeSpec := { name := "factsTree", fn := fun _ => fun
  | [d1, d2] => { results := [.lit (.bool false)], args := [d1, d2] }
  | _ => none }
def FactsTreeWrongFalsely : Prop := factsTreeRow.holds Try.pinned (OpenSpec.ofChange factsTreeWrong)

/-- 'pushkeep.LlTree': WHATEVER THE INPUT: true; the input reads as it did. -/
def llTreeSpec : ChangeSpec := { name := "llTree", fn := fun _ => fun
  | [d1, d2] => { results := [.lit (.bool true)], args := [d1, d2] }
  | _ => none }
def llTreeRow : OpenClaim := { program := "ytldfiofgknmcgaa", sum := "f8a0ef5f1922013e26bea4e3e7f83ad56f0ecd7cb680fe0c5707ac472eeba985", func := "pushmill/pushkeep.LlTree", spec := "llTree", unfollowed := true, recurses := true, loops := true, apart := false }
def LlTreeSaid : Prop := llTreeRow.holds Try.pinned (OpenSpec.ofChange llTreeSpec)

/-- ITS FALSE NEIGHBOUR: 'it returns false'. Refute it at one input. -/
def llTreeWrong : ChangeSpec := { name := "llTree", fn := fun _ => fun
  | [d1, d2] => { results := [.lit (.bool false)], args := [d1, d2] }
  | _ => none }
def LlTreeWrongFalsely : Prop := llTreeRow.holds Try.pinned (OpenSpec.ofChange llTreeWrong)

/-- 'pushkeep.TreesBack': WHATEVER THE INPUT: true; the input reads as it did. -/
def treesBackSpec : ChangeSpec := { name := "treesBack", fn := fun _ => fun
  | [d1, d2] => { results := [.lit (.bool true)], args := [d1, d2] }
  | _ => none }
def treesBackRow : OpenClaim := { program := "ytldfiofgknmcgaa", sum := "f8a0ef5f1922013e26bea4e3e7f83ad56f0ecd7cb680fe0c5707ac472eeba985", func := "pushmill/pushkeep.TreesBack", spec := "treesBack", recurses := true, loops := true, apart := false }
def TreesBackSaid : Prop := treesBackRow.holds Try.pinned (OpenSpec.ofChange treesBackSpec)

/-- ITS FALSE NEIGHBOUR: 'it returns false'. Refute it at one input. -/
def treesBackWrong : ChangeSpec := { name := "treesBack", fn := fun _ => fun
  | [d1, d2] => { results := [.lit (.bool false)], args := [d1, d2] }
  | _ => none }
def TreesBackWrongFalsely : Prop := treesBackRow.holds Try.pinned (OpenSpec.ofChange treesBackWrong)

/-- 'pushkeep.TreesAgain': WHATEVER THE INPUT: true; the input reads as it did. -/
def treesAgainSpec : ChangeSpec := { name := "treesAgain", fn := fun _ => fun
  | [d1, d2] => { results := [.lit (.bool true)], args := [d1, d2] }
  | _ => none }
def treesAgainRow : OpenClaim := { program := "ytldfiofgknmcgaa", sum := "f8a0ef5f1922013e26bea4e3e7f83ad56f0ecd7cb680fe0c5707ac472eeba985", func := "pushmill/pushkeep.TreesAgain", spec := "treesAgain", recurses := true, apart := false }
def TreesAgainSaid : Prop := treesAgainRow.holds Try.pinned (OpenSpec.ofChange treesAgainSpec)

/-- ITS FALSE NEIGHBOUR: 'it returns false'. Refute it at one input. -/
def treesAgainWrong : ChangeSpec := { name := "treesAgain", fn := fun _ => fun
  | [d1, d2] => { results := [.lit (.bool false)], args := [d1, d2] }
  | _ => none }
def TreesAgainWrongFalsely : Prop := treesAgainRow.holds Try.pinned (OpenSpec.ofChange treesAgainWrong)

/- THE SECOND FORM. 'bulk': how many values and letters a reading holds, each counted each time it is reached (what is shared counts as often as it is met; a slice's spare places count too). A statement '..UptoSaid' is the law's where the arguments, and the package variables that the reading takes, are together of bulk at most 1048576: NARROWER than '..Said'. Prove '..Said' where nothing that the law and all that it calls make is longer than what came in: it says more and counts as full. Else prove '..UptoSaid'. A law counts once. -/
mutual
def uptoBulk {H : Type} : DataW H → Nat
  | .lit (.string bytes) => bytes.length + 1
  | .lit _ => 1
  | .nil => 1
  | .ptr d => uptoBulk d + 1
  | .slice elems spare => uptoBulkAll elems + uptoBulkAll spare + 1
  | .agg parts => uptoBulkAll parts + 1
  | .iface _ d => uptoBulk d + 1
  | .map entries => uptoBulkEntries entries + 1
  | .held _ => 1
def uptoBulkAll {H : Type} : List (DataW H) → Nat
  | [] => 0
  | d :: r => uptoBulk d + uptoBulkAll r
def uptoBulkEntries {H : Type} : List (Lit × DataW H) → Nat
  | [] => 0
  | x :: r => uptoBulkEntry x + uptoBulkEntries r
def uptoBulkEntry {H : Type} : Lit × DataW H → Nat
  | (.string bytes, d) => bytes.length + uptoBulk d + 1
  | (_, d) => uptoBulk d + 1
 end
def uptoSmall : (H : Type) → List (DataW H) → Bool := fun _ ds => decide (uptoBulkAll ds ≤ 1048576)
def OpenSpec.upto (s : _root_.Go.ChangeSpec) : _root_.Go.OpenSpec := { _root_.Go.OpenSpec.ofChange s with cond := some uptoSmall }

/-- 'pushlaw.TreesSays', WHERE WHAT IT READS IS OF BULK AT MOST 1048576: true; the input reads as it did. -/
def treesSaysUptoRow : OpenClaim := { program := "ytldfiofgknmcgaa", sum := "f8a0ef5f1922013e26bea4e3e7f83ad56f0ecd7cb680fe0c5707ac472eeba985", func := "pushmill/pushlaw.TreesSays", spec := "treesSays", unfollowed := true, recurses := true, loops := true, apart := false, narrowed := true }
def TreesSaysUptoSaid : Prop := treesSaysUptoRow.holds Try.pinned (OpenSpec.upto treesSaysSpec)

/-- 'pushlaw.TreesReads', WHERE WHAT IT READS IS OF BULK AT MOST 1048576: true; the input reads as it did. -/
def treesReadsUptoRow : OpenClaim := { program := "ytldfiofgknmcgaa", sum := "f8a0ef5f1922013e26bea4e3e7f83ad56f0ecd7cb680fe0c5707ac472eeba985", func := "pushmill/pushlaw.TreesReads", spec := "treesReads", unfollowed := true, recurses := true, apart := false, narrowed := true }
def TreesReadsUptoSaid : Prop := treesReadsUptoRow.holds Try.pinned (OpenSpec.upto treesReadsSpec)

/-- 'pushkeep.FactsTree', WHERE WHAT IT READS IS OF BULK AT MOST 1048576: true; the input reads as it did. -/
def factsTreeUptoRow : OpenClaim := { program := "ytldfiofgknmcgaa", sum := "f8a0ef5f1922013e26bea4e3e7f83ad56f0ecd7cb680fe0c5707ac472eeba985", func := "pushmill/pushkeep.FactsTree", spec := "factsTree", unfollowed := true, recurses := true, loops := true, apart := false, narrowed := true }
def FactsTreeUptoSaid : Prop := factsTreeUptoRow.holds Try.pinned (OpenSpec.upto factsTreeSpec)

/-- 'pushkeep.LlTree', WHERE WHAT IT READS IS OF BULK AT MOST 1048576: true; the input reads as it did. -/
def llTreeUptoRow : OpenClaim := { program := "ytldfiofgknmcgaa", sum := "f8a0ef5f1922013e26bea4e3e7f83ad56f0ecd7cb680fe0c5707ac472eeba985", func := "pushmill/pushkeep.LlTree", spec := "llTree", unfollowed := true, recurses := true, loops := true, apart := false, narrowed := true }
def LlTreeUptoSaid : Prop := llTreeUptoRow.holds Try.pinned (OpenSpec.upto llTreeSpec)

/-- 'pushkeep.TreesBack', WHERE WHAT IT READS IS OF BULK AT MOST 1048576: true; the input reads as it did. -/
def treesBackUptoRow : OpenClaim := { program := "ytldfiofgknmcgaa", sum := "f8a0ef5f1922013e26bea4e3e7f83ad56f0ecd7cb680fe0c5707ac472eeba985", func := "pushmill/pushkeep.TreesBack", spec := "treesBack", recurses := true, loops := true, apart := false, narrowed := true }
def TreesBackUptoSaid : Prop := treesBackUptoRow.holds Try.pinned (OpenSpec.upto treesBackSpec)

/-- 'pushkeep.TreesAgain', WHERE WHAT IT READS IS OF BULK AT MOST 1048576: true; the input reads as it did. -/
def treesAgainUptoRow : OpenClaim := { program := "ytldfiofgknmcgaa", sum := "f8a0ef5f1922013e26bea4e3e7f83ad56f0ecd7cb680fe0c5707ac472eeba985", func := "pushmill/pushkeep.TreesAgain", spec := "treesAgain", recurses := true, apart := false, narrowed := true }
def TreesAgainUptoSaid : Prop := treesAgainUptoRow.holds Try.pinned (OpenSpec.upto treesAgainSpec)

end Rows
end Go.Proofs.Ytldfiofgknmcgaa
