/-
  NARROWER THAN 'FOR EVERY INPUT', by the rows' own cells (each row's printed sentence says how): DfaMeans: loops · DfaFew: loops · LexerRules: loops.
  DERIVED. THE GIVEN ROWS OF THIS SEAT. 6 by the template 'for every input the law returns true; each argument reads behind the call as it read before'; 0 by the template 'total and deterministic' (their statements: YtlmlkpdppkgenaaTotals.lean).
  GIVEN WITH THE SEED: the statements are not yours to turn. If you find one false, say at which input.
  Laid BY PROGRAM, IN A SANDBOX (cutbox-rows.mjs): the forced cells as the released guide's own fill.sh prints them over the translation 5ba27f7fe7691e89… (all of the seat's roots in one cut). By AI agents, Wed Nov 11 2026. No macro, syntax, notation, axiom, sorry.
-/
import Derived.Test.YtlmlkpdppkgenaaChecked
import GoSem.Claim
import GoSem.ClaimJoined
import GoSem.ClaimMapViews
import Derived.JoinedTies
import Derived.KernelRfl
namespace Go.Proofs.Ytlmlkpdppkgenaa
/- THE CELL 'sum', in the pinned program and in every row, IS THE sha256 OF THE DUMP (.gsa) THAT YtlmlkpdppkgenaaProg.lean LOADS. Nothing in Lean hashes anything: it is a label: what it is worth is what the hold of that sum in a sandbox is worth. -/
noncomputable def Try.pinned : Pinned := { name := "ytlmlkpdppkgenaa", sum := "5ba27f7fe7691e8929f2165886fe92d855b42db20f09243d9ebd97a1afdeadf0", checked := Try.checked }
namespace Rows
def none {H : Type} : Left H := { results := [], args := [] }

/-- 'pushlaw.DfaMakes': WHATEVER THE INPUT: true; the input reads as it did. -/
def dfaMakesSpec : ChangeSpec := { name := "dfaMakes", fn := fun _ => fun
  | [d] => { results := [.lit (.bool true)], args := [d] }
  | _ => none }
def dfaMakesRow : OpenClaim := { program := "ytlmlkpdppkgenaa", sum := "5ba27f7fe7691e8929f2165886fe92d855b42db20f09243d9ebd97a1afdeadf0", func := "pushmill/pushlaw.DfaMakes", spec := "dfaMakes", unfollowed := true, recurses := true, plainKeys := false, apart := false }
def DfaMakesSaid : Prop := dfaMakesRow.holds Try.pinned (OpenSpec.ofChange dfaMakesSpec)

/-- ITS FALSE NEIGHBOUR: 'it returns false'. Refute it at one input. -/
def dfaMakesWrong : ChangeSpec := { name := "dfaMakes", fn := fun _ => fun
  | [d] => { results := [.lit (.bool false)], args := [d] }
  | _ => none }
def DfaMakesWrongFalsely : Prop := dfaMakesRow.holds Try.pinned (OpenSpec.ofChange dfaMakesWrong)

/-- 'pushkeep.DfaMeans': WHATEVER THE INPUT: true; the input reads as it did. -/
def dfaMeansSpec : ChangeSpec := { name := "dfaMeans", fn := fun _ => fun
  | [d1, d2] => { results := [.lit (.bool true)], args := [d1, d2] }
  | _ => none }
def dfaMeansRow : OpenClaim := { program := "ytlmlkpdppkgenaa", sum := "5ba27f7fe7691e8929f2165886fe92d855b42db20f09243d9ebd97a1afdeadf0", func := "pushmill/pushkeep.DfaMeans", spec := "dfaMeans", recurses := true, loops := true, plainKeys := false, apart := false }
def DfaMeansSaid : Prop := dfaMeansRow.holds Try.pinned (OpenSpec.ofChange dfaMeansSpec)

/-- ITS FALSE NEIGHBOUR: 'it returns false'. Refute it at one input. -/
def dfaMeansWrong : ChangeSpec := { name := "dfaMeans", fn := fun _ => fun
  | [d1, d2] => { results := [.lit (.bool false)], args := [d1, d2] }
  | _ => none }
def DfaMeansWrongFalsely : Prop := dfaMeansRow.holds Try.pinned (OpenSpec.ofChange dfaMeansWrong)

/-- 'pushkeep.DfaFew': WHATEVER THE INPUT: true; the input reads as it did. -/
def dfaFewSpec : ChangeSpec := { name := "dfaFew", fn := fun _ => fun
  | [d1, d2, d3] => { results := [.lit (.bool true)], args := [d1, d2, d3] }
  | _ => none }
def dfaFewRow : OpenClaim := { program := "ytlmlkpdppkgenaa", sum := "5ba27f7fe7691e8929f2165886fe92d855b42db20f09243d9ebd97a1afdeadf0", func := "pushmill/pushkeep.DfaFew", spec := "dfaFew", recurses := true, loops := true, plainKeys := false, apart := false }
def DfaFewSaid : Prop := dfaFewRow.holds Try.pinned (OpenSpec.ofChange dfaFewSpec)

/-- ITS FALSE NEIGHBOUR: 'it returns false'. Refute it at one input. -/
def dfaFewWrong : ChangeSpec := { name := "dfaFew", fn := fun _ => fun
  | [d1, d2, d3] => { results := [.lit (.bool false)], args := [d1, d2, d3] }
  | _ => none }
def DfaFewWrongFalsely : Prop := dfaFewRow.holds Try.pinned (OpenSpec.ofChange dfaFewWrong)

/-- 'pushkeep.LexerCovers': WHATEVER THE INPUT: true; the input reads as it did. -/
def lexerCoversSpec : ChangeSpec := { name := "lexerCovers", fn := fun _ => fun
  | [d1, d2] => { results := [.lit (.bool true)], args := [d1, d2] }
  | _ => none }
def lexerCoversRow : OpenClaim := { program := "ytlmlkpdppkgenaa", sum := "5ba27f7fe7691e8929f2165886fe92d855b42db20f09243d9ebd97a1afdeadf0", func := "pushmill/pushkeep.LexerCovers", spec := "lexerCovers", recurses := true, plainKeys := false, apart := false }
def LexerCoversSaid : Prop := lexerCoversRow.holds Try.pinned (OpenSpec.ofChange lexerCoversSpec)

/-- ITS FALSE NEIGHBOUR: 'it returns false'. Refute it at one input. -/
def lexerCoversWrong : ChangeSpec := { name := "lexerCovers", fn := fun _ => fun
  | [d1, d2] => { results := [.lit (.bool false)], args := [d1, d2] }
  | _ => none }
def LexerCoversWrongFalsely : Prop := lexerCoversRow.holds Try.pinned (OpenSpec.ofChange lexerCoversWrong)

/-- 'pushkeep.LexerLongest': WHATEVER THE INPUT: true; the input reads as it did. -/
def lexerLongestSpec : ChangeSpec := { name := "lexerLongest", fn := fun _ => fun
  | [d1, d2] => { results := [.lit (.bool true)], args := [d1, d2] }
  | _ => none }
def lexerLongestRow : OpenClaim := { program := "ytlmlkpdppkgenaa", sum := "5ba27f7fe7691e8929f2165886fe92d855b42db20f09243d9ebd97a1afdeadf0", func := "pushmill/pushkeep.LexerLongest", spec := "lexerLongest", recurses := true, plainKeys := false, apart := false }
def LexerLongestSaid : Prop := lexerLongestRow.holds Try.pinned (OpenSpec.ofChange lexerLongestSpec)

/-- ITS FALSE NEIGHBOUR: 'it returns false'. Refute it at one input. -/
def lexerLongestWrong : ChangeSpec := { name := "lexerLongest", fn := fun _ => fun
  | [d1, d2] => { results := [.lit (.bool false)], args := [d1, d2] }
  | _ => none }
def LexerLongestWrongFalsely : Prop := lexerLongestRow.holds Try.pinned (OpenSpec.ofChange lexerLongestWrong)

/-- 'pushkeep.LexerRules': WHATEVER THE INPUT: true; the input reads as it did. -/
def lexerRulesSpec : ChangeSpec := { name := "lexerRules", fn := fun _ => fun
  | [d1, d2] => { results := [.lit (.bool true)], args := [d1, d2] }
  | _ => none }
def lexerRulesRow : OpenClaim := { program := "ytlmlkpdppkgenaa", sum := "5ba27f7fe7691e8929f2165886fe92d855b42db20f09243d9ebd97a1afdeadf0", func := "pushmill/pushkeep.LexerRules", spec := "lexerRules", recurses := true, loops := true, plainKeys := false, apart := false }
def LexerRulesSaid : Prop := lexerRulesRow.holds Try.pinned (OpenSpec.ofChange lexerRulesSpec)

/-- ITS FALSE NEIGHBOUR: 'it returns false'. Refute it at one input. -/
def lexerRulesWrong : ChangeSpec := { name := "lexerRules", fn := fun _ => fun
  | [d1, d2] => { results := [.lit (.bool false)], args := [d1, d2] }
  | _ => none }
def LexerRulesWrongFalsely : Prop := lexerRulesRow.holds Try.pinned (OpenSpec.ofChange lexerRulesWrong)

/- THE SECOND FORM. 'bulk': how many values and letters a reading holds, each counted each time it is reached (what is shared counts as often as it is met; a slice's spare places count too). A statement '..UptoSaid' is the law's where the arguments, and the package variables that the reading takes, are together of bulk at most 1048576: NARROWER than '..Said'. Prove '..Said' where nothing that the law and all that it calls make is longer than what came in: it says more and counts as full. Else prove '..UptoSaid'. A law counts once. -/
mutual
def uptoBulk {H : Type} : DataW H → Nat
  | .lit (.string bytes) => bytes.length + 1
  | .lit _ => 1
  | .nil => 1
  | .ptr d => uptoBulk d + 1
  | .slice elems spare => uptoBulkAll elems + uptoBulkAll spare + 1
  | .agg parts => uptoBulkAll parts + 1
  | .iface _ d => uptoBulk d + 1
  | .map entries => uptoBulkEntries entries + 1
  | .held _ => 1
def uptoBulkAll {H : Type} : List (DataW H) → Nat
  | [] => 0
  | d :: r => uptoBulk d + uptoBulkAll r
def uptoBulkEntries {H : Type} : List (Lit × DataW H) → Nat
  | [] => 0
  | x :: r => uptoBulkEntry x + uptoBulkEntries r
def uptoBulkEntry {H : Type} : Lit × DataW H → Nat
  | (.string bytes, d) => bytes.length + uptoBulk d + 1
  | (_, d) => uptoBulk d + 1
 end
def uptoSmall : (H : Type) → List (DataW H) → Bool := fun _ ds => decide (uptoBulkAll ds ≤ 1048576)
def OpenSpec.upto (s : _root_.Go.ChangeSpec) : _root_.Go.OpenSpec := { _root_.Go.OpenSpec.ofChange s with cond := some uptoSmall }

/-- 'pushlaw.DfaMakes', WHERE WHAT IT READS IS OF BULK AT MOST 1048576: true; the input reads as it did. -/
def dfaMakesUptoRow : OpenClaim := { program := "ytlmlkpdppkgenaa", sum := "5ba27f7fe7691e8929f2165886fe92d855b42db20f09243d9ebd97a1afdeadf0", func := "pushmill/pushlaw.DfaMakes", spec := "dfaMakes", unfollowed := true, recurses := true, plainKeys := false, apart := false, narrowed := true }
def DfaMakesUptoSaid : Prop := dfaMakesUptoRow.holds Try.pinned (OpenSpec.upto dfaMakesSpec)

/-- 'pushkeep.DfaMeans', WHERE WHAT IT READS IS OF BULK AT MOST 1048576: true; the input reads as it did. -/
def dfaMeansUptoRow : OpenClaim := { program := "ytlmlkpdppkgenaa", sum := "5ba27f7fe7691e8929f2165886fe92d855b42db20f09243d9ebd97a1afdeadf0", func := "pushmill/pushkeep.DfaMeans", spec := "dfaMeans", recurses := true, loops := true, plainKeys := false, apart := false, narrowed := true }
def DfaMeansUptoSaid : Prop := dfaMeansUptoRow.holds Try.pinned (OpenSpec.upto dfaMeansSpec)

/-- 'pushkeep.DfaFew', WHERE WHAT IT READS IS OF BULK AT MOST 1048576: true; the input reads as it did. -/
def dfaFewUptoRow : OpenClaim := { program := "ytlmlkpdppkgenaa", sum := "5ba27f7fe7691e8929f2165886fe92d855b42db20f09243d9ebd97a1afdeadf0", func := "pushmill/pushkeep.DfaFew", spec := "dfaFew", recurses := true, loops := true, plainKeys := false, apart := false, narrowed := true }
def DfaFewUptoSaid : Prop := dfaFewUptoRow.holds Try.pinned (OpenSpec.upto dfaFewSpec)

/-- 'pushkeep.LexerCovers', WHERE WHAT IT READS IS OF BULK AT MOST 1048576: true; the input reads as it did. -/
def lexerCoversUptoRow : OpenClaim := { program := "ytlmlkpdppkgenaa", sum := "5ba27f7fe7691e8929f2165886fe92d855b42db20f09243d9ebd97a1afdeadf0", func := "pushmill/pushkeep.LexerCovers", spec := "lexerCovers", recurses := true, plainKeys := false, apart := false, narrowed := true }
def LexerCoversUptoSaid : Prop := lexerCoversUptoRow.holds Try.pinned (OpenSpec.upto lexerCoversSpec)

/-- 'pushkeep.LexerLongest', WHERE WHAT IT READS IS OF BULK AT MOST 1048576: true; the input reads as it did. -/
def lexerLongestUptoRow : OpenClaim := { program := "ytlmlkpdppkgenaa", sum := "5ba27f7fe7691e8929f2165886fe92d855b42db20f09243d9ebd97a1afdeadf0", func := "pushmill/pushkeep.LexerLongest", spec := "lexerLongest", recurses := true, plainKeys := false, apart := false, narrowed := true }
def LexerLongestUptoSaid : Prop := lexerLongestUptoRow.holds Try.pinned (OpenSpec.upto lexerLongestSpec)

/-- 'pushkeep.LexerRules', WHERE WHAT IT READS IS OF BULK AT MOST 1048576: true; the input reads as it did. -/
def lexerRulesUptoRow : OpenClaim := { program := "ytlmlkpdppkgenaa", sum := "5ba27f7fe7691e8929f2165886fe92d855b42db20f09243d9ebd97a1afdeadf0", func := "pushmill/pushkeep.LexerRules", spec := "lexerRules", recurses := true, loops := true, plainKeys := false, apart := false, narrowed := true }
def LexerRulesUptoSaid : Prop := lexerRulesUptoRow.holds Try.pinned (OpenSpec.upto lexerRulesSpec)

end Rows
end Go.Proofs.Ytlmlkpdppkgenaa
