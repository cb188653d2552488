/-
  No cell of these rows narrows 'for every input' (looked for: loops, veiled, ifaces, maps, wideKeys, modest, calm, conditions, laid).
  DERIVED. THE GIVEN ROWS OF THIS SEAT. 5 by the template 'for every input the law returns true; each argument reads behind the call as it read before'; 0 by the template 'total and deterministic' (their statements: YtpfehghicaaghaaTotals.lean).
  GIVEN WITH THE SEED: the statements are not yours to turn. If you find one false, say at which input.
  Laid BY PROGRAM, IN A SANDBOX (cutbox-rows.mjs): the forced cells as the released guide's own fill.sh prints them over the translation a45c7adeed80ddb9… (all of the seat's roots in one cut). By AI agents, Wed Nov 11 2026. No macro, syntax, notation, axiom, sorry.
-/
import Derived.Test.YtpfehghicaaghaaChecked
import GoSem.Claim
import GoSem.ClaimJoined
import GoSem.ClaimMapViews
import Derived.JoinedTies
import Derived.KernelRfl
namespace Go.Proofs.Ytpfehghicaaghaa
/- THE CELL 'sum', in the pinned program and in every row, IS THE sha256 OF THE DUMP (.gsa) THAT YtpfehghicaaghaaProg.lean LOADS. Nothing in Lean hashes anything: it is a label: what it is worth is what the hold of that sum in a sandbox is worth. -/
noncomputable def Try.pinned : Pinned := { name := "ytpfehghicaaghaa", sum := "a45c7adeed80ddb95f03da739be27d1bbffd345384ed4a92026bf62f5c461e09", checked := Try.checked }
namespace Rows
def none {H : Type} : Left H := { results := [], args := [] }

/-- 'pushlaw.CountSays': WHATEVER THE INPUT: true; the input reads as it did. -/
def countSaysSpec : ChangeSpec := { name := "countSays", fn := fun _ => fun
  | [d1, d2] => { results := [.lit (.bool true)], args := [d1, d2] }
  | _ => none }
def countSaysRow : OpenClaim := { program := "ytpfehghicaaghaa", sum := "a45c7adeed80ddb95f03da739be27d1bbffd345384ed4a92026bf62f5c461e09", func := "pushmill/pushlaw.CountSays", spec := "countSays", unfollowed := true, recurses := true, apart := false }
def CountSaysSaid : Prop := countSaysRow.holds Try.pinned (OpenSpec.ofChange countSaysSpec)

/-- ITS FALSE NEIGHBOUR: 'it returns false'. Refute it at one input. -/
def countSaysWrong : ChangeSpec := { name := "countSays", fn := fun _ => fun
  | [d1, d2] => { results := [.lit (.bool false)], args := [d1, d2] }
  | _ => none }
def CountSaysWrongFalsely : Prop := countSaysRow.holds Try.pinned (OpenSpec.ofChange countSaysWrong)

/-- 'pushlaw.ClimbSays': WHATEVER THE INPUT: true; the input reads as it did. -/
def climbSaysSpec : ChangeSpec := { name := "climbSays", fn := fun _ => fun
  | [d1, d2, d3, d4] => { results := [.lit (.bool true)], args := [d1, d2, d3, d4] }
  | _ => none }
def climbSaysRow : OpenClaim := { program := "ytpfehghicaaghaa", sum := "a45c7adeed80ddb95f03da739be27d1bbffd345384ed4a92026bf62f5c461e09", func := "pushmill/pushlaw.ClimbSays", spec := "climbSays", unfollowed := true, recurses := true, apart := false }
def ClimbSaysSaid : Prop := climbSaysRow.holds Try.pinned (OpenSpec.ofChange climbSaysSpec)

/-- ITS FALSE NEIGHBOUR: 'it returns false'. Refute it at one input. -/
def climbSaysWrong : ChangeSpec := { name := "climbSays", fn := fun _ => fun
  | [d1, d2, d3, d4] => { results := [.lit (.bool false)], args := [d1, d2, d3, d4] }
  | _ => none }
def ClimbSaysWrongFalsely : Prop := climbSaysRow.holds Try.pinned (OpenSpec.ofChange climbSaysWrong)

/-- 'pushkeep.CountOnly': WHATEVER THE INPUT: true; the input reads as it did. -/
def countOnlySpec : ChangeSpec := { name := "countOnly", fn := fun _ => fun
  | [d1, d2] => { results := [.lit (.bool true)], args := [d1, d2] }
  | _ => none }
def countOnlyRow : OpenClaim := { program := "ytpfehghicaaghaa", sum := "a45c7adeed80ddb95f03da739be27d1bbffd345384ed4a92026bf62f5c461e09", func := "pushmill/pushkeep.CountOnly", spec := "countOnly", recurses := true, apart := false }
def CountOnlySaid : Prop := countOnlyRow.holds Try.pinned (OpenSpec.ofChange countOnlySpec)

/-- ITS FALSE NEIGHBOUR: 'it returns false'. Refute it at one input. -/
def countOnlyWrong : ChangeSpec := { name := "countOnly", fn := fun _ => fun
  | [d1, d2] => { results := [.lit (.bool false)], args := [d1, d2] }
  | _ => none }
def CountOnlyWrongFalsely : Prop := countOnlyRow.holds Try.pinned (OpenSpec.ofChange countOnlyWrong)

/-- 'pushkeep.ClimbParses': WHATEVER THE INPUT: true; the input reads as it did. -/
def climbParsesSpec : ChangeSpec := { name := "climbParses", fn := fun _ => fun
  | [d1, d2] => { results := [.lit (.bool true)], args := [d1, d2] }
  | _ => none }
def climbParsesRow : OpenClaim := { program := "ytpfehghicaaghaa", sum := "a45c7adeed80ddb95f03da739be27d1bbffd345384ed4a92026bf62f5c461e09", func := "pushmill/pushkeep.ClimbParses", spec := "climbParses", unfollowed := true, recurses := true, apart := false }
def ClimbParsesSaid : Prop := climbParsesRow.holds Try.pinned (OpenSpec.ofChange climbParsesSpec)

/-- ITS FALSE NEIGHBOUR: 'it returns false'. Refute it at one input. -/
def climbParsesWrong : ChangeSpec := { name := "climbParses", fn := fun _ => fun
  | [d1, d2] => { results := [.lit (.bool false)], args := [d1, d2] }
  | _ => none }
def ClimbParsesWrongFalsely : Prop := climbParsesRow.holds Try.pinned (OpenSpec.ofChange climbParsesWrong)

/-- 'pushkeep.ClimbSoon': WHATEVER THE INPUT: true; the input reads as it did. -/
def climbSoonSpec : ChangeSpec := { name := "climbSoon", fn := fun _ => fun
  | [d1, d2] => { results := [.lit (.bool true)], args := [d1, d2] }
  | _ => none }
def climbSoonRow : OpenClaim := { program := "ytpfehghicaaghaa", sum := "a45c7adeed80ddb95f03da739be27d1bbffd345384ed4a92026bf62f5c461e09", func := "pushmill/pushkeep.ClimbSoon", spec := "climbSoon", unfollowed := true, recurses := true, apart := false }
def ClimbSoonSaid : Prop := climbSoonRow.holds Try.pinned (OpenSpec.ofChange climbSoonSpec)

/-- ITS FALSE NEIGHBOUR: 'it returns false'. Refute it at one input. -/
def climbSoonWrong : ChangeSpec := { name := "climbSoon", fn := fun _ => fun
  | [d1, d2] => { results := [.lit (.bool false)], args := [d1, d2] }
  | _ => none }
def ClimbSoonWrongFalsely : Prop := climbSoonRow.holds Try.pinned (OpenSpec.ofChange climbSoonWrong)

/- THE SECOND FORM. 'bulk': how many values and letters a reading holds, each counted each time it is reached (what is shared counts as often as it is met; a slice's spare places count too). A statement '..UptoSaid' is the law's where the arguments, and the package variables that the reading takes, are together of bulk at most 1048576: NARROWER than '..Said'. Prove '..Said' where nothing that the law and all that it calls make is longer than what came in: it says more and counts as full. Else prove '..UptoSaid'. A law counts once. -/
mutual
def uptoBulk {H : Type} : DataW H → Nat
  | .lit (.string bytes) => bytes.length + 1
  | .lit _ => 1
  | .nil => 1
  | .ptr d => uptoBulk d + 1
  | .slice elems spare => uptoBulkAll elems + uptoBulkAll spare + 1
  | .agg parts => uptoBulkAll parts + 1
  | .iface _ d => uptoBulk d + 1
  | .map entries => uptoBulkEntries entries + 1
  | .held _ => 1
def uptoBulkAll {H : Type} : List (DataW H) → Nat
  | [] => 0
  | d :: r => uptoBulk d + uptoBulkAll r
def uptoBulkEntries {H : Type} : List (Lit × DataW H) → Nat
  | [] => 0
  | x :: r => uptoBulkEntry x + uptoBulkEntries r
def uptoBulkEntry {H : Type} : Lit × DataW H → Nat
  | (.string bytes, d) => bytes.length + uptoBulk d + 1
  | (_, d) => uptoBulk d + 1
 end
def uptoSmall : (H : Type) → List (DataW H) → Bool := fun _ ds => decide (uptoBulkAll ds ≤ 1048576)
def OpenSpec.upto (s : _root_.Go.ChangeSpec) : _root_.Go.OpenSpec := { _root_.Go.OpenSpec.ofChange s with cond := some uptoSmall }

/-- 'pushlaw.CountSays', WHERE WHAT IT READS IS OF BULK AT MOST 1048576: true; the input reads as it did. -/
def countSaysUptoRow : OpenClaim := { program := "ytpfehghicaaghaa", sum := "a45c7adeed80ddb95f03da739be27d1bbffd345384ed4a92026bf62f5c461e09", func := "pushmill/pushlaw.CountSays", spec := "countSays", unfollowed := true, recurses := true, apart := false, narrowed := true }
def CountSaysUptoSaid : Prop := countSaysUptoRow.holds Try.pinned (OpenSpec.upto countSaysSpec)

/-- 'pushlaw.ClimbSays', WHERE WHAT IT READS IS OF BULK AT MOST 1048576: true; the input reads as it did. -/
def climbSaysUptoRow : OpenClaim := { program := "ytpfehghicaaghaa", sum := "a45c7adeed80ddb95f03da739be27d1bbffd345384ed4a92026bf62f5c461e09", func := "pushmill/pushlaw.ClimbSays", spec := "climbSays", unfollowed := true, recurses := true, apart := false, narrowed := true }
def ClimbSaysUptoSaid : Prop := climbSaysUptoRow.holds Try.pinned (OpenSpec.upto climbSaysSpec)

/-- 'pushkeep.CountOnly', WHERE WHAT IT READS IS OF BULK AT MOST 1048576: true; the input reads as it did. -/
def countOnlyUptoRow : OpenClaim := { program := "ytpfehghicaaghaa", sum := "a45c7adeed80ddb95f03da739be27d1bbffd345384ed4a92026bf62f5c461e09", func := "pushmill/pushkeep.CountOnly", spec := "countOnly", recurses := true, apart := false, narrowed := true }
def CountOnlyUptoSaid : Prop := countOnlyUptoRow.holds Try.pinned (OpenSpec.upto countOnlySpec)

/-- 'pushkeep.ClimbParses', WHERE WHAT IT READS IS OF BULK AT MOST 1048576: true; the input reads as it did. -/
def climbParsesUptoRow : OpenClaim := { program := "ytpfehghicaaghaa", sum := "a45c7adeed80ddb95f03da739be27d1bbffd345384ed4a92026bf62f5c461e09", func := "pushmill/pushkeep.ClimbParses", spec := "climbParses", unfollowed := true, recurses := true, apart := false, narrowed := true }
def ClimbParsesUptoSaid : Prop := climbParsesUptoRow.holds Try.pinned (OpenSpec.upto climbParsesSpec)

/-- 'pushkeep.ClimbSoon', WHERE WHAT IT READS IS OF BULK AT MOST 1048576: true; the input reads as it did. -/
def climbSoonUptoRow : OpenClaim := { program := "ytpfehghicaaghaa", sum := "a45c7adeed80ddb95f03da739be27d1bbffd345384ed4a92026bf62f5c461e09", func := "pushmill/pushkeep.ClimbSoon", spec := "climbSoon", unfollowed := true, recurses := true, apart := false, narrowed := true }
def ClimbSoonUptoSaid : Prop := climbSoonUptoRow.holds Try.pinned (OpenSpec.upto climbSoonSpec)

end Rows
end Go.Proofs.Ytpfehghicaaghaa
