/-
  NARROWER THAN 'FOR EVERY INPUT', by the rows' own cells (each row's printed sentence says how): PlacesMakes: loops · PlacesMeans: loops · PlacesAlone: loops · PlacesOwn: loops.
  DERIVED. THE GIVEN ROWS OF THIS SEAT. 5 by the template 'for every input the law returns true; each argument reads behind the call as it read before'; 0 by the template 'total and deterministic' (their statements: YtgdaegmmapljgaaTotals.lean).
  GIVEN WITH THE SEED: the statements are not yours to turn. If you find one false, say at which input.
  Laid BY PROGRAM, IN A SANDBOX (cutbox-rows.mjs): the forced cells as the released guide's own fill.sh prints them over the translation 24b0a34f2aaf3c72… (all of the seat's roots in one cut). By AI agents, Wed Nov 11 2026. No macro, syntax, notation, axiom, sorry.
-/
import Derived.Test.YtgdaegmmapljgaaChecked
import GoSem.Claim
import GoSem.ClaimJoined
import GoSem.ClaimMapViews
import Derived.JoinedTies
import Derived.KernelRfl
namespace Go.Proofs.Ytgdaegmmapljgaa
/- THE CELL 'sum', in the pinned program and in every row, IS THE sha256 OF THE DUMP (.gsa) THAT YtgdaegmmapljgaaProg.lean LOADS. Nothing in Lean hashes anything: it is a label: what it is worth is what the hold of that sum in a sandbox is worth. -/
noncomputable def Try.pinned : Pinned := { name := "ytgdaegmmapljgaa", sum := "24b0a34f2aaf3c723ee7925d0cf38cf1357c26c7abc0ab9f5e11b6282c23621a", checked := Try.checked }
namespace Rows
def none {H : Type} : Left H := { results := [], args := [] }

/-- 'pushlaw.PlacesMakes': WHATEVER THE INPUT: true; the input reads as it did. -/
def placesMakesSpec : ChangeSpec := { name := "placesMakes", fn := fun _ => fun
  | [d] => { results := [.lit (.bool true)], args := [d] }
  | _ => none }
def placesMakesRow : OpenClaim := { program := "ytgdaegmmapljgaa", sum := "24b0a34f2aaf3c723ee7925d0cf38cf1357c26c7abc0ab9f5e11b6282c23621a", func := "pushmill/pushlaw.PlacesMakes", spec := "placesMakes", unfollowed := true, recurses := true, loops := true, plainKeys := false, apart := false }
def PlacesMakesSaid : Prop := placesMakesRow.holds Try.pinned (OpenSpec.ofChange placesMakesSpec)

/-- ITS FALSE NEIGHBOUR: 'it returns false'. Refute it at one input. -/
def placesMakesWrong : ChangeSpec := { name := "placesMakes", fn := fun _ => fun
  | [d] => { results := [.lit (.bool false)], args := [d] }
  | _ => none }
def PlacesMakesWrongFalsely : Prop := placesMakesRow.holds Try.pinned (OpenSpec.ofChange placesMakesWrong)

/-- 'pushlaw.PlacesRuns': WHATEVER THE INPUT: true; the input reads as it did. -/
def placesRunsSpec : ChangeSpec := { name := "placesRuns", fn := fun _ => fun
  | [d1, d2] => { results := [.lit (.bool true)], args := [d1, d2] }
  | _ => none }
def placesRunsRow : OpenClaim := { program := "ytgdaegmmapljgaa", sum := "24b0a34f2aaf3c723ee7925d0cf38cf1357c26c7abc0ab9f5e11b6282c23621a", func := "pushmill/pushlaw.PlacesRuns", spec := "placesRuns", plainKeys := false, apart := false }
def PlacesRunsSaid : Prop := placesRunsRow.holds Try.pinned (OpenSpec.ofChange placesRunsSpec)

/-- ITS FALSE NEIGHBOUR: 'it returns false'. Refute it at one input. -/
def placesRunsWrong : ChangeSpec := { name := "placesRuns", fn := fun _ => fun
  | [d1, d2] => { results := [.lit (.bool false)], args := [d1, d2] }
  | _ => none }
def PlacesRunsWrongFalsely : Prop := placesRunsRow.holds Try.pinned (OpenSpec.ofChange placesRunsWrong)

/-- 'pushkeep.PlacesMeans': WHATEVER THE INPUT: true; the input reads as it did. -/
def placesMeansSpec : ChangeSpec := { name := "placesMeans", fn := fun _ => fun
  | [d1, d2] => { results := [.lit (.bool true)], args := [d1, d2] }
  | _ => none }
def placesMeansRow : OpenClaim := { program := "ytgdaegmmapljgaa", sum := "24b0a34f2aaf3c723ee7925d0cf38cf1357c26c7abc0ab9f5e11b6282c23621a", func := "pushmill/pushkeep.PlacesMeans", spec := "placesMeans", recurses := true, loops := true, plainKeys := false, apart := false }
def PlacesMeansSaid : Prop := placesMeansRow.holds Try.pinned (OpenSpec.ofChange placesMeansSpec)

/-- ITS FALSE NEIGHBOUR: 'it returns false'. Refute it at one input. -/
def placesMeansWrong : ChangeSpec := { name := "placesMeans", fn := fun _ => fun
  | [d1, d2] => { results := [.lit (.bool false)], args := [d1, d2] }
  | _ => none }
def PlacesMeansWrongFalsely : Prop := placesMeansRow.holds Try.pinned (OpenSpec.ofChange placesMeansWrong)

/-- 'pushkeep.PlacesAlone': WHATEVER THE INPUT: true; the input reads as it did. -/
def placesAloneSpec : ChangeSpec := { name := "placesAlone", fn := fun _ => fun
  | [d1, d2] => { results := [.lit (.bool true)], args := [d1, d2] }
  | _ => none }
def placesAloneRow : OpenClaim := { program := "ytgdaegmmapljgaa", sum := "24b0a34f2aaf3c723ee7925d0cf38cf1357c26c7abc0ab9f5e11b6282c23621a", func := "pushmill/pushkeep.PlacesAlone", spec := "placesAlone", recurses := true, loops := true, plainKeys := false, apart := false }
def PlacesAloneSaid : Prop := placesAloneRow.holds Try.pinned (OpenSpec.ofChange placesAloneSpec)

/-- ITS FALSE NEIGHBOUR: 'it returns false'. Refute it at one input. -/
def placesAloneWrong : ChangeSpec := { name := "placesAlone", fn := fun _ => fun
  | [d1, d2] => { results := [.lit (.bool false)], args := [d1, d2] }
  | _ => none }
def PlacesAloneWrongFalsely : Prop := placesAloneRow.holds Try.pinned (OpenSpec.ofChange placesAloneWrong)

/-- 'pushkeep.PlacesOwn': WHATEVER THE INPUT: true; the input reads as it did. -/
def placesOwnSpec : ChangeSpec := { name := "placesOwn", fn := fun _ => fun
  | [d] => { results := [.lit (.bool true)], args := [d] }
  | _ => none }
def placesOwnRow : OpenClaim := { program := "ytgdaegmmapljgaa", sum := "24b0a34f2aaf3c723ee7925d0cf38cf1357c26c7abc0ab9f5e11b6282c23621a", func := "pushmill/pushkeep.PlacesOwn", spec := "placesOwn", unfollowed := true, recurses := true, loops := true, plainKeys := false, apart := false }
def PlacesOwnSaid : Prop := placesOwnRow.holds Try.pinned (OpenSpec.ofChange placesOwnSpec)

/-- ITS FALSE NEIGHBOUR: 'it returns false'. Refute it at one input. -/
def placesOwnWrong : ChangeSpec := { name := "placesOwn", fn := fun _ => fun
  | [d] => { results := [.lit (.bool false)], args := [d] }
  | _ => none }
def PlacesOwnWrongFalsely : Prop := placesOwnRow.holds Try.pinned (OpenSpec.ofChange placesOwnWrong)

/- THE SECOND FORM. 'bulk': how many values and letters a reading holds, each counted each time it is reached (what is shared counts as often as it is met; a slice's spare places count too). A statement '..UptoSaid' is the law's where the arguments, and the package variables that the reading takes, are together of bulk at most 1048576: NARROWER than '..Said'. Prove '..Said' where nothing that the law and all that it calls make is longer than what came in: it says more and counts as full. Else prove '..UptoSaid'. A law counts once. -/
mutual
def uptoBulk {H : Type} : DataW H → Nat
  | .lit (.string bytes) => bytes.length + 1
  | .lit _ => 1
  | .nil => 1
  | .ptr d => uptoBulk d + 1
  | .slice elems spare => uptoBulkAll elems + uptoBulkAll spare + 1
  | .agg parts => uptoBulkAll parts + 1
  | .iface _ d => uptoBulk d + 1
  | .map entries => uptoBulkEntries entries + 1
  | .held _ => 1
def uptoBulkAll {H : Type} : List (DataW H) → Nat
  | [] => 0
  | d :: r => uptoBulk d + uptoBulkAll r
def uptoBulkEntries {H : Type} : List (Lit × DataW H) → Nat
  | [] => 0
  | x :: r => uptoBulkEntry x + uptoBulkEntries r
def uptoBulkEntry {H : Type} : Lit × DataW H → Nat
  | (.string bytes, d) => bytes.length + uptoBulk d + 1
  | (_, d) => uptoBulk d + 1
 end
def uptoSmall : (H : Type) → List (DataW H) → Bool := fun _ ds => decide (uptoBulkAll ds ≤ 1048576)
def OpenSpec.upto (s : _root_.Go.ChangeSpec) : _root_.Go.OpenSpec := { _root_.Go.OpenSpec.ofChange s with cond := some uptoSmall }

/-- 'pushlaw.PlacesMakes', WHERE WHAT IT READS IS OF BULK AT MOST 1048576: true; the input reads as it did. -/
def placesMakesUptoRow : OpenClaim := { program := "ytgdaegmmapljgaa", sum := "24b0a34f2aaf3c723ee7925d0cf38cf1357c26c7abc0ab9f5e11b6282c23621a", func := "pushmill/pushlaw.PlacesMakes", spec := "placesMakes", unfollowed := true, recurses := true, loops := true, plainKeys := false, apart := false, narrowed := true }
def PlacesMakesUptoSaid : Prop := placesMakesUptoRow.holds Try.pinned (OpenSpec.upto placesMakesSpec)

/-- 'pushlaw.PlacesRuns', WHERE WHAT IT READS IS OF BULK AT MOST 1048576: true; the input reads as it did. -/
def placesRunsUptoRow : OpenClaim := { program := "ytgdaegmmapljgaa", sum := "24b0a34f2aaf3c723ee7925d0cf38cf1357c26c7abc0ab9f5e11b6282c23621a", func := "pushmill/pushlaw.PlacesRuns", spec := "placesRuns", plainKeys := false, apart := false, narrowed := true }
def PlacesRunsUptoSaid : Prop := placesRunsUptoRow.holds Try.pinned (OpenSpec.upto placesRunsSpec)

/-- 'pushkeep.PlacesMeans', WHERE WHAT IT READS IS OF BULK AT MOST 1048576: true; the input reads as it did. -/
def placesMeansUptoRow : OpenClaim := { program := "ytgdaegmmapljgaa", sum := "24b0a34f2aaf3c723ee7925d0cf38cf1357c26c7abc0ab9f5e11b6282c23621a", func := "pushmill/pushkeep.PlacesMeans", spec := "placesMeans", recurses := true, loops := true, plainKeys := false, apart := false, narrowed := true }
def PlacesMeansUptoSaid : Prop := placesMeansUptoRow.holds Try.pinned (OpenSpec.upto placesMeansSpec)

/-- 'pushkeep.PlacesAlone', WHERE WHAT IT READS IS OF BULK AT MOST 1048576: true; the input reads as it did. -/
def placesAloneUptoRow : OpenClaim := { program := "ytgdaegmmapljgaa", sum := "24b0a34f2aaf3c723ee7925d0cf38cf1357c26c7abc0ab9f5e11b6282c23621a", func := "pushmill/pushkeep.PlacesAlone", spec := "placesAlone", recurses := true, loops := true, plainKeys := false, apart := false, narrowed := true }
def PlacesAloneUptoSaid : Prop := placesAloneUptoRow.holds Try.pinned (OpenSpec.upto placesAloneSpec)

/-- 'pushkeep.PlacesOwn', WHERE WHAT IT READS IS OF BULK AT MOST 1048576: true; the input reads as it did. -/
def placesOwnUptoRow : OpenClaim := { program := "ytgdaegmmapljgaa", sum := "24b0a34f2aaf3c723ee7925d0cf38cf1357c26c7abc0ab9f5e11b6282c23621a", func := "pushmill/pushkeep.PlacesOwn", spec := "placesOwn", unfollowed := true, recurses := true, loops := true, plainKeys := false, apart := false, narrowed := true }
def PlacesOwnUptoSaid : Prop := placesOwnUptoRow.holds Try.pinned (OpenSpec.upto placesOwnSpec)

end Rows
end Go.Proofs.Ytgdaegmmapljgaa
