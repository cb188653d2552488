/-
  No cell of these rows narrows 'for every input' (looked for: loops, veiled, ifaces, maps, wideKeys, modest, calm, conditions, laid).
  DERIVED. THE GIVEN ROWS OF THIS SEAT. 6 by the template 'for every input the law returns true; each argument reads behind the call as it read before'; 0 by the template 'total and deterministic' (their statements: YtgoejdakmbpcmaaTotals.lean).
  GIVEN WITH THE SEED: the statements are not yours to turn. If you find one false, say at which input.
  Laid BY PROGRAM, IN A SANDBOX (cutbox-rows.mjs): the forced cells as the released guide's own fill.sh prints them over the translation c210102a06567f39… (all of the seat's roots in one cut). By AI agents, Wed Nov 11 2026. No macro, syntax, notation, axiom, sorry.
-/
import Derived.Test.YtgoejdakmbpcmaaChecked
import GoSem.Claim
import GoSem.ClaimJoined
import GoSem.ClaimMapViews
import Derived.JoinedTies
import Derived.KernelRfl
namespace Go.Proofs.Ytgoejdakmbpcmaa
/- THE CELL 'sum', in the pinned program and in every row, IS THE sha256 OF THE DUMP (.gsa) THAT YtgoejdakmbpcmaaProg.lean LOADS. Nothing in Lean hashes anything: it is a label: what it is worth is what the hold of that sum in a sandbox is worth. -/
noncomputable def Try.pinned : Pinned := { name := "ytgoejdakmbpcmaa", sum := "c210102a06567f3926fdd35fee308c8c25bfc7f0fb5b943a466adaed3cc2058b", checked := Try.checked }
namespace Rows
def none {H : Type} : Left H := { results := [], args := [] }

/-- 'pushlaw.ClassSays': WHATEVER THE INPUT: true; the input reads as it did. -/
def classSaysSpec : ChangeSpec := { name := "classSays", fn := fun _ => fun
  | [d1, d2, d3, d4, d5] => { results := [.lit (.bool true)], args := [d1, d2, d3, d4, d5] }
  | _ => none }
def classSaysRow : OpenClaim := { program := "ytgoejdakmbpcmaa", sum := "c210102a06567f3926fdd35fee308c8c25bfc7f0fb5b943a466adaed3cc2058b", func := "pushmill/pushlaw.ClassSays", spec := "classSays", unfollowed := true, recurses := true, plainKeys := false, apart := false }
def ClassSaysSaid : Prop := classSaysRow.holds Try.pinned (OpenSpec.ofChange classSaysSpec)

/-- ITS FALSE NEIGHBOUR: 'it returns false'. Refute it at one input. -/
def classSaysWrong : ChangeSpec := { name := "classSays", fn := fun _ => fun
  | [d1, d2, d3, d4, d5] => { results := [.lit (.bool false)], args := [d1, d2, d3, d4, d5] }
  | _ => none }
def ClassSaysWrongFalsely : Prop := classSaysRow.holds Try.pinned (OpenSpec.ofChange classSaysWrong)

/-- 'pushlaw.ClassParts': WHATEVER THE INPUT: true; the input reads as it did. -/
def classPartsSpec : ChangeSpec := { name := "classParts", fn := fun _ => fun
  | [d] => { results := [.lit (.bool true)], args := [d] }
  | _ => none }
def classPartsRow : OpenClaim := { program := "ytgoejdakmbpcmaa", sum := "c210102a06567f3926fdd35fee308c8c25bfc7f0fb5b943a466adaed3cc2058b", func := "pushmill/pushlaw.ClassParts", spec := "classParts", unfollowed := true, recurses := true, plainKeys := false, apart := false }
def ClassPartsSaid : Prop := classPartsRow.holds Try.pinned (OpenSpec.ofChange classPartsSpec)

/-- ITS FALSE NEIGHBOUR: 'it returns false'. Refute it at one input. -/
def classPartsWrong : ChangeSpec := { name := "classParts", fn := fun _ => fun
  | [d] => { results := [.lit (.bool false)], args := [d] }
  | _ => none }
def ClassPartsWrongFalsely : Prop := classPartsRow.holds Try.pinned (OpenSpec.ofChange classPartsWrong)

/-- 'pushkeep.ClassSets': WHATEVER THE INPUT: true; the input reads as it did. -/
def classSetsSpec : ChangeSpec := { name := "classSets", fn := fun _ => fun
  | [d1, d2, d3] => { results := [.lit (.bool true)], args := [d1, d2, d3] }
  | _ => none }
def classSetsRow : OpenClaim := { program := "ytgoejdakmbpcmaa", sum := "c210102a06567f3926fdd35fee308c8c25bfc7f0fb5b943a466adaed3cc2058b", func := "pushmill/pushkeep.ClassSets", spec := "classSets", unfollowed := true, recurses := true, plainKeys := false, apart := false }
def ClassSetsSaid : Prop := classSetsRow.holds Try.pinned (OpenSpec.ofChange classSetsSpec)

/-- ITS FALSE NEIGHBOUR: 'it returns false'. Refute it at one input. -/
def classSetsWrong : ChangeSpec := { name := "classSets", fn := fun _ => fun
  | [d1, d2, d3] => { results := [.lit (.bool false)], args := [d1, d2, d3] }
  | _ => none }
def ClassSetsWrongFalsely : Prop := classSetsRow.holds Try.pinned (OpenSpec.ofChange classSetsWrong)

/-- 'pushkeep.ClassSizes': WHATEVER THE INPUT: true; the input reads as it did. -/
def classSizesSpec : ChangeSpec := { name := "classSizes", fn := fun _ => fun
  | [d1, d2] => { results := [.lit (.bool true)], args := [d1, d2] }
  | _ => none }
def classSizesRow : OpenClaim := { program := "ytgoejdakmbpcmaa", sum := "c210102a06567f3926fdd35fee308c8c25bfc7f0fb5b943a466adaed3cc2058b", func := "pushmill/pushkeep.ClassSizes", spec := "classSizes", plainKeys := false, apart := false }
def ClassSizesSaid : Prop := classSizesRow.holds Try.pinned (OpenSpec.ofChange classSizesSpec)

/-- ITS FALSE NEIGHBOUR: 'it returns false'. Refute it at one input. -/
def classSizesWrong : ChangeSpec := { name := "classSizes", fn := fun _ => fun
  | [d1, d2] => { results := [.lit (.bool false)], args := [d1, d2] }
  | _ => none }
def ClassSizesWrongFalsely : Prop := classSizesRow.holds Try.pinned (OpenSpec.ofChange classSizesWrong)

/-- 'pushkeep.ClassAtoms': WHATEVER THE INPUT: true; the input reads as it did. -/
def classAtomsSpec : ChangeSpec := { name := "classAtoms", fn := fun _ => fun
  | [d] => { results := [.lit (.bool true)], args := [d] }
  | _ => none }
def classAtomsRow : OpenClaim := { program := "ytgoejdakmbpcmaa", sum := "c210102a06567f3926fdd35fee308c8c25bfc7f0fb5b943a466adaed3cc2058b", func := "pushmill/pushkeep.ClassAtoms", spec := "classAtoms", unfollowed := true, recurses := true, plainKeys := false, apart := false }
def ClassAtomsSaid : Prop := classAtomsRow.holds Try.pinned (OpenSpec.ofChange classAtomsSpec)

/-- ITS FALSE NEIGHBOUR: 'it returns false'. Refute it at one input. -/
def classAtomsWrong : ChangeSpec := { name := "classAtoms", fn := fun _ => fun
  | [d] => { results := [.lit (.bool false)], args := [d] }
  | _ => none }
def ClassAtomsWrongFalsely : Prop := classAtomsRow.holds Try.pinned (OpenSpec.ofChange classAtomsWrong)

/-- 'pushkeep.ClassOwn': WHATEVER THE INPUT: true; the input reads as it did. -/
def classOwnSpec : ChangeSpec := { name := "classOwn", fn := fun _ => fun
  | [d] => { results := [.lit (.bool true)], args := [d] }
  | _ => none }
def classOwnRow : OpenClaim := { program := "ytgoejdakmbpcmaa", sum := "c210102a06567f3926fdd35fee308c8c25bfc7f0fb5b943a466adaed3cc2058b", func := "pushmill/pushkeep.ClassOwn", spec := "classOwn", unfollowed := true, recurses := true, plainKeys := false, apart := false }
def ClassOwnSaid : Prop := classOwnRow.holds Try.pinned (OpenSpec.ofChange classOwnSpec)

/-- ITS FALSE NEIGHBOUR: 'it returns false'. Refute it at one input. -/
def classOwnWrong : ChangeSpec := { name := "classOwn", fn := fun _ => fun
  | [d] => { results := [.lit (.bool false)], args := [d] }
  | _ => none }
def ClassOwnWrongFalsely : Prop := classOwnRow.holds Try.pinned (OpenSpec.ofChange classOwnWrong)

/- THE SECOND FORM. 'bulk': how many values and letters a reading holds, each counted each time it is reached (what is shared counts as often as it is met; a slice's spare places count too). A statement '..UptoSaid' is the law's where the arguments, and the package variables that the reading takes, are together of bulk at most 1048576: NARROWER than '..Said'. Prove '..Said' where nothing that the law and all that it calls make is longer than what came in: it says more and counts as full. Else prove '..UptoSaid'. A law counts once. -/
mutual
def uptoBulk {H : Type} : DataW H → Nat
  | .lit (.string bytes) => bytes.length + 1
  | .lit _ => 1
  | .nil => 1
  | .ptr d => uptoBulk d + 1
  | .slice elems spare => uptoBulkAll elems + uptoBulkAll spare + 1
  | .agg parts => uptoBulkAll parts + 1
  | .iface _ d => uptoBulk d + 1
  | .map entries => uptoBulkEntries entries + 1
  | .held _ => 1
def uptoBulkAll {H : Type} : List (DataW H) → Nat
  | [] => 0
  | d :: r => uptoBulk d + uptoBulkAll r
def uptoBulkEntries {H : Type} : List (Lit × DataW H) → Nat
  | [] => 0
  | x :: r => uptoBulkEntry x + uptoBulkEntries r
def uptoBulkEntry {H : Type} : Lit × DataW H → Nat
  | (.string bytes, d) => bytes.length + uptoBulk d + 1
  | (_, d) => uptoBulk d + 1
 end
def uptoSmall : (H : Type) → List (DataW H) → Bool := fun _ ds => decide (uptoBulkAll ds ≤ 1048576)
def OpenSpec.upto (s : _root_.Go.ChangeSpec) : _root_.Go.OpenSpec := { _root_.Go.OpenSpec.ofChange s with cond := some uptoSmall }

/-- 'pushlaw.ClassSays', WHERE WHAT IT READS IS OF BULK AT MOST 1048576: true; the input reads as it did. -/
def classSaysUptoRow : OpenClaim := { program := "ytgoejdakmbpcmaa", sum := "c210102a06567f3926fdd35fee308c8c25bfc7f0fb5b943a466adaed3cc2058b", func := "pushmill/pushlaw.ClassSays", spec := "classSays", unfollowed := true, recurses := true, plainKeys := false, apart := false, narrowed := true }
def ClassSaysUptoSaid : Prop := classSaysUptoRow.holds Try.pinned (OpenSpec.upto classSaysSpec)

/-- 'pushlaw.ClassParts', WHERE WHAT IT READS IS OF BULK AT MOST 1048576: true; the input reads as it did. -/
def classPartsUptoRow : OpenClaim := { program := "ytgoejdakmbpcmaa", sum := "c210102a06567f3926fdd35fee308c8c25bfc7f0fb5b943a466adaed3cc2058b", func := "pushmill/pushlaw.ClassParts", spec := "classParts", unfollowed := true, recurses := true, plainKeys := false, apart := false, narrowed := true }
def ClassPartsUptoSaid : Prop := classPartsUptoRow.holds Try.pinned (OpenSpec.upto classPartsSpec)

/-- 'pushkeep.ClassSets', WHERE WHAT IT READS IS OF BULK AT MOST 1048576: true; the input reads as it did. -/
def classSetsUptoRow : OpenClaim := { program := "ytgoejdakmbpcmaa", sum := "c210102a06567f3926fdd35fee308c8c25bfc7f0fb5b943a466adaed3cc2058b", func := "pushmill/pushkeep.ClassSets", spec := "classSets", unfollowed := true, recurses := true, plainKeys := false, apart := false, narrowed := true }
def ClassSetsUptoSaid : Prop := classSetsUptoRow.holds Try.pinned (OpenSpec.upto classSetsSpec)

/-- 'pushkeep.ClassSizes', WHERE WHAT IT READS IS OF BULK AT MOST 1048576: true; the input reads as it did. -/
def classSizesUptoRow : OpenClaim := { program := "ytgoejdakmbpcmaa", sum := "c210102a06567f3926fdd35fee308c8c25bfc7f0fb5b943a466adaed3cc2058b", func := "pushmill/pushkeep.ClassSizes", spec := "classSizes", plainKeys := false, apart := false, narrowed := true }
def ClassSizesUptoSaid : Prop := classSizesUptoRow.holds Try.pinned (OpenSpec.upto classSizesSpec)

/-- 'pushkeep.ClassAtoms', WHERE WHAT IT READS IS OF BULK AT MOST 1048576: true; the input reads as it did. -/
def classAtomsUptoRow : OpenClaim := { program := "ytgoejdakmbpcmaa", sum := "c210102a06567f3926fdd35fee308c8c25bfc7f0fb5b943a466adaed3cc2058b", func := "pushmill/pushkeep.ClassAtoms", spec := "classAtoms", unfollowed := true, recurses := true, plainKeys := false, apart := false, narrowed := true }
def ClassAtomsUptoSaid : Prop := classAtomsUptoRow.holds Try.pinned (OpenSpec.upto classAtomsSpec)

/-- 'pushkeep.ClassOwn', WHERE WHAT IT READS IS OF BULK AT MOST 1048576: true; the input reads as it did. -/
def classOwnUptoRow : OpenClaim := { program := "ytgoejdakmbpcmaa", sum := "c210102a06567f3926fdd35fee308c8c25bfc7f0fb5b943a466adaed3cc2058b", func := "pushmill/pushkeep.ClassOwn", spec := "classOwn", unfollowed := true, recurses := true, plainKeys := false, apart := false, narrowed := true }
def ClassOwnUptoSaid : Prop := classOwnUptoRow.holds Try.pinned (OpenSpec.upto classOwnSpec)

end Rows
end Go.Proofs.Ytgoejdakmbpcmaa
