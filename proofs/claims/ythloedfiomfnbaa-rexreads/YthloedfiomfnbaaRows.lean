/-
  NARROWER THAN 'FOR EVERY INPUT', by the rows' own cells (each row's printed sentence says how): RexChecks: loops · RexBack: loops.
  DERIVED. THE GIVEN ROWS OF THIS SEAT. 4 by the template 'for every input the law returns true; each argument reads behind the call as it read before'; 0 by the template 'total and deterministic' (their statements: YthloedfiomfnbaaTotals.lean).
  GIVEN WITH THE SEED: the statements are not yours to turn. If you find one false, say at which input.
  Laid BY PROGRAM, IN A SANDBOX (cutbox-rows.mjs): the forced cells as the released guide's own fill.sh prints them over the translation e79d36c61ad97cc7… (all of the seat's roots in one cut). By AI agents, Wed Nov 11 2026. No macro, syntax, notation, axiom, sorry.
-/
import Derived.Test.YthloedfiomfnbaaChecked
import GoSem.Claim
import GoSem.ClaimJoined
import GoSem.ClaimMapViews
import Derived.JoinedTies
import Derived.KernelRfl
namespace Go.Proofs.Ythloedfiomfnbaa
/- THE CELL 'sum', in the pinned program and in every row, IS THE sha256 OF THE DUMP (.gsa) THAT YthloedfiomfnbaaProg.lean LOADS. Nothing in Lean hashes anything: it is a label: what it is worth is what the hold of that sum in a sandbox is worth. -/
noncomputable def Try.pinned : Pinned := { name := "ythloedfiomfnbaa", sum := "e79d36c61ad97cc701ba2631b01909ed89fac9e6b7e17a83d6ab8dd7980d1d8e", checked := Try.checked }
namespace Rows
def none {H : Type} : Left H := { results := [], args := [] }

/-- 'pushlaw.RexChecks': WHATEVER THE INPUT: true; the input reads as it did. -/
def rexChecksSpec : ChangeSpec := { name := "rexChecks", fn := fun _ => fun
  | [d] => { results := [.lit (.bool true)], args := [d] }
  | _ => none }
def rexChecksRow : OpenClaim := { program := "ythloedfiomfnbaa", sum := "e79d36c61ad97cc701ba2631b01909ed89fac9e6b7e17a83d6ab8dd7980d1d8e", func := "pushmill/pushlaw.RexChecks", spec := "rexChecks", inPlace := ["internal/bytealg.IndexByteString", "internal/abi.NoEscape"], unfollowed := true, recurses := true, loops := true, apart := false }
def RexChecksSaid : Prop := rexChecksRow.holds Try.pinned (OpenSpec.ofChange rexChecksSpec)

/-- ITS FALSE NEIGHBOUR: 'it returns false'. Refute it at one input. -/
def rexChecksWrong : ChangeSpec := { name := "rexChecks", fn := fun _ => fun
  | [d] => { results := [.lit (.bool false)], args := [d] }
  | _ => none }
def RexChecksWrongFalsely : Prop := rexChecksRow.holds Try.pinned (OpenSpec.ofChange rexChecksWrong)

/-- 'pushlaw.RexReads': WHATEVER THE INPUT: true; the input reads as it did. -/
def rexReadsSpec : ChangeSpec := { name := "rexReads", fn := fun _ => fun
  | [d] => { results := [.lit (.bool true)], args := [d] }
  | _ => none }
def rexReadsRow : OpenClaim := { program := "ythloedfiomfnbaa", sum := "e79d36c61ad97cc701ba2631b01909ed89fac9e6b7e17a83d6ab8dd7980d1d8e", func := "pushmill/pushlaw.RexReads", spec := "rexReads", inPlace := ["internal/bytealg.IndexByteString"], unfollowed := true, recurses := true, apart := false }
def RexReadsSaid : Prop := rexReadsRow.holds Try.pinned (OpenSpec.ofChange rexReadsSpec)

/-- ITS FALSE NEIGHBOUR: 'it returns false'. Refute it at one input. -/
def rexReadsWrong : ChangeSpec := { name := "rexReads", fn := fun _ => fun
  | [d] => { results := [.lit (.bool false)], args := [d] }
  | _ => none }
def RexReadsWrongFalsely : Prop := rexReadsRow.holds Try.pinned (OpenSpec.ofChange rexReadsWrong)

/-- 'pushkeep.RexBack': WHATEVER THE INPUT: true; the input reads as it did. -/
def rexBackSpec : ChangeSpec := { name := "rexBack", fn := fun _ => fun
  | [d] => { results := [.lit (.bool true)], args := [d] }
  | _ => none }
def rexBackRow : OpenClaim := { program := "ythloedfiomfnbaa", sum := "e79d36c61ad97cc701ba2631b01909ed89fac9e6b7e17a83d6ab8dd7980d1d8e", func := "pushmill/pushkeep.RexBack", spec := "rexBack", inPlace := ["internal/bytealg.IndexByteString", "internal/abi.NoEscape"], recurses := true, loops := true, apart := false }
def RexBackSaid : Prop := rexBackRow.holds Try.pinned (OpenSpec.ofChange rexBackSpec)

/-- ITS FALSE NEIGHBOUR: 'it returns false'. Refute it at one input. -/
def rexBackWrong : ChangeSpec := { name := "rexBack", fn := fun _ => fun
  | [d] => { results := [.lit (.bool false)], args := [d] }
  | _ => none }
def RexBackWrongFalsely : Prop := rexBackRow.holds Try.pinned (OpenSpec.ofChange rexBackWrong)

/-- 'pushkeep.RexAgain': WHATEVER THE INPUT: true; the input reads as it did. -/
def rexAgainSpec : ChangeSpec := { name := "rexAgain", fn := fun _ => fun
  | [d] => { results := [.lit (.bool true)], args := [d] }
  | _ => none }
def rexAgainRow : OpenClaim := { program := "ythloedfiomfnbaa", sum := "e79d36c61ad97cc701ba2631b01909ed89fac9e6b7e17a83d6ab8dd7980d1d8e", func := "pushmill/pushkeep.RexAgain", spec := "rexAgain", inPlace := ["internal/bytealg.IndexByteString", "internal/abi.NoEscape"], recurses := true, apart := false }
def RexAgainSaid : Prop := rexAgainRow.holds Try.pinned (OpenSpec.ofChange rexAgainSpec)

/-- ITS FALSE NEIGHBOUR: 'it returns false'. Refute it at one input. -/
def rexAgainWrong : ChangeSpec := { name := "rexAgain", fn := fun _ => fun
  | [d] => { results := [.lit (.bool false)], args := [d] }
  | _ => none }
def RexAgainWrongFalsely : Prop := rexAgainRow.holds Try.pinned (OpenSpec.ofChange rexAgainWrong)

/- THE SECOND FORM. 'bulk': how many values and letters a reading holds, each counted each time it is reached (what is shared counts as often as it is met; a slice's spare places count too). A statement '..UptoSaid' is the law's where the arguments, and the package variables that the reading takes, are together of bulk at most 1048576: NARROWER than '..Said'. Prove '..Said' where nothing that the law and all that it calls make is longer than what came in: it says more and counts as full. Else prove '..UptoSaid'. A law counts once. -/
mutual
def uptoBulk {H : Type} : DataW H → Nat
  | .lit (.string bytes) => bytes.length + 1
  | .lit _ => 1
  | .nil => 1
  | .ptr d => uptoBulk d + 1
  | .slice elems spare => uptoBulkAll elems + uptoBulkAll spare + 1
  | .agg parts => uptoBulkAll parts + 1
  | .iface _ d => uptoBulk d + 1
  | .map entries => uptoBulkEntries entries + 1
  | .held _ => 1
def uptoBulkAll {H : Type} : List (DataW H) → Nat
  | [] => 0
  | d :: r => uptoBulk d + uptoBulkAll r
def uptoBulkEntries {H : Type} : List (Lit × DataW H) → Nat
  | [] => 0
  | x :: r => uptoBulkEntry x + uptoBulkEntries r
def uptoBulkEntry {H : Type} : Lit × DataW H → Nat
  | (.string bytes, d) => bytes.length + uptoBulk d + 1
  | (_, d) => uptoBulk d + 1
 end
def uptoSmall : (H : Type) → List (DataW H) → Bool := fun _ ds => decide (uptoBulkAll ds ≤ 1048576)
def OpenSpec.upto (s : _root_.Go.ChangeSpec) : _root_.Go.OpenSpec := { _root_.Go.OpenSpec.ofChange s with cond := some uptoSmall }

/-- 'pushlaw.RexChecks', WHERE WHAT IT READS IS OF BULK AT MOST 1048576: true; the input reads as it did. -/
def rexChecksUptoRow : OpenClaim := { program := "ythloedfiomfnbaa", sum := "e79d36c61ad97cc701ba2631b01909ed89fac9e6b7e17a83d6ab8dd7980d1d8e", func := "pushmill/pushlaw.RexChecks", spec := "rexChecks", inPlace := ["internal/bytealg.IndexByteString", "internal/abi.NoEscape"], unfollowed := true, recurses := true, loops := true, apart := false, narrowed := true }
def RexChecksUptoSaid : Prop := rexChecksUptoRow.holds Try.pinned (OpenSpec.upto rexChecksSpec)

/-- 'pushlaw.RexReads', WHERE WHAT IT READS IS OF BULK AT MOST 1048576: true; the input reads as it did. -/
def rexReadsUptoRow : OpenClaim := { program := "ythloedfiomfnbaa", sum := "e79d36c61ad97cc701ba2631b01909ed89fac9e6b7e17a83d6ab8dd7980d1d8e", func := "pushmill/pushlaw.RexReads", spec := "rexReads", inPlace := ["internal/bytealg.IndexByteString"], unfollowed := true, recurses := true, apart := false, narrowed := true }
def RexReadsUptoSaid : Prop := rexReadsUptoRow.holds Try.pinned (OpenSpec.upto rexReadsSpec)

/-- 'pushkeep.RexBack', WHERE WHAT IT READS IS OF BULK AT MOST 1048576: true; the input reads as it did. -/
def rexBackUptoRow : OpenClaim := { program := "ythloedfiomfnbaa", sum := "e79d36c61ad97cc701ba2631b01909ed89fac9e6b7e17a83d6ab8dd7980d1d8e", func := "pushmill/pushkeep.RexBack", spec := "rexBack", inPlace := ["internal/bytealg.IndexByteString", "internal/abi.NoEscape"], recurses := true, loops := true, apart := false, narrowed := true }
def RexBackUptoSaid : Prop := rexBackUptoRow.holds Try.pinned (OpenSpec.upto rexBackSpec)

/-- 'pushkeep.RexAgain', WHERE WHAT IT READS IS OF BULK AT MOST 1048576: true; the input reads as it did. -/
def rexAgainUptoRow : OpenClaim := { program := "ythloedfiomfnbaa", sum := "e79d36c61ad97cc701ba2631b01909ed89fac9e6b7e17a83d6ab8dd7980d1d8e", func := "pushmill/pushkeep.RexAgain", spec := "rexAgain", inPlace := ["internal/bytealg.IndexByteString", "internal/abi.NoEscape"], recurses := true, apart := false, narrowed := true }
def RexAgainUptoSaid : Prop := rexAgainUptoRow.holds Try.pinned (OpenSpec.upto rexAgainSpec)

end Rows
end Go.Proofs.Ythloedfiomfnbaa
