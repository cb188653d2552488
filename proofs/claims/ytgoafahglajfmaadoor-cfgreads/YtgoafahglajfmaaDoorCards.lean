/-
  DERIVED. GIVEN WITH THE SEED: THE CARDS: each row of YtgoafahglajfmaaDoorRows.lean that lists a variable, with what it lists TIED to the program's text (the seventh form; the later family's looks); each row that meets fmt, with fmt's text TOLD by the authors' own Lean function (tested against real Go, not proved from fmt's source: count such statements apart). THE CARD IS WHAT COUNTS. Prove the row's statement (the work); the ties are given (YtgoafahglajfmaaDoorTie.lean); close each card by the builder's one call (the guide's Derived/Test/ToyasCard.lean, 'card_holds'). Laid BY PROGRAM, IN A SANDBOX (cutbox-door.mjs). By AI agents, Wed Nov 11 2026. No macro, syntax, notation, axiom, sorry.
-/
import Derived.Test.YtgoafahglajfmaaDoorRows
import GoSem.ClaimSeven
namespace Go.Proofs.YtgoafahglajfmaaDoor
namespace Rows

/-- THE TIED CARD OF 'pushlaw.CfgReads'. -/
def cfgReadsCard : Claim7 := { stood := { row := cfgReadsRow, standIns := [], harness := (true, "499744621ff4726611782f20068178ffe3b83ec6480a1ef01c172ed9ea8096f7"), looks := false }, kinds := [], alts := [], laidByText := true, laidKinds := [.data, .data, .data, .data, .pinned], laidTests := true, laidLooks := .later }
def CfgReadsCardSaid : Prop := Claim7.holds Tryd.pinned (.plain (OpenSpec.ofChange cfgReadsSpec)) cfgReadsCard

/-- THE TIED CARD OF 'pushkeep.CfgBack'. -/
def cfgBackCard : Claim7 := { stood := { row := cfgBackRow, standIns := [], harness := (true, "499744621ff4726611782f20068178ffe3b83ec6480a1ef01c172ed9ea8096f7"), looks := false }, kinds := [], alts := [], laidByText := true, laidKinds := [.data, .data, .data, .data, .pinned], laidTests := true, laidLooks := .later }
def CfgBackCardSaid : Prop := Claim7.holds Tryd.pinned (.plain (OpenSpec.ofChange cfgBackSpec)) cfgBackCard

/-- THE TIED CARD OF 'pushkeep.CfgAgain'. -/
def cfgAgainCard : Claim7 := { stood := { row := cfgAgainRow, standIns := [], harness := (true, "499744621ff4726611782f20068178ffe3b83ec6480a1ef01c172ed9ea8096f7"), looks := false }, kinds := [], alts := [], laidByText := true, laidKinds := [.data, .data, .data, .data, .pinned], laidTests := true, laidLooks := .later }
def CfgAgainCardSaid : Prop := Claim7.holds Tryd.pinned (.plain (OpenSpec.ofChange cfgAgainSpec)) cfgAgainCard

/-- THE SECOND FORM's CARD OF 'pushlaw.CfgReads'. -/
def cfgReadsUptoCard : Claim7 := { stood := { row := cfgReadsUptoRow, standIns := [], harness := (true, "499744621ff4726611782f20068178ffe3b83ec6480a1ef01c172ed9ea8096f7"), looks := false }, kinds := [], alts := [], laidByText := true, laidKinds := [.data, .data, .data, .data, .pinned], laidTests := true, laidLooks := .later }
def CfgReadsUptoCardSaid : Prop := Claim7.holds Tryd.pinned (.plain (OpenSpec.upto cfgReadsSpec)) cfgReadsUptoCard

/-- THE SECOND FORM's CARD OF 'pushkeep.CfgBack'. -/
def cfgBackUptoCard : Claim7 := { stood := { row := cfgBackUptoRow, standIns := [], harness := (true, "499744621ff4726611782f20068178ffe3b83ec6480a1ef01c172ed9ea8096f7"), looks := false }, kinds := [], alts := [], laidByText := true, laidKinds := [.data, .data, .data, .data, .pinned], laidTests := true, laidLooks := .later }
def CfgBackUptoCardSaid : Prop := Claim7.holds Tryd.pinned (.plain (OpenSpec.upto cfgBackSpec)) cfgBackUptoCard

/-- THE SECOND FORM's CARD OF 'pushkeep.CfgAgain'. -/
def cfgAgainUptoCard : Claim7 := { stood := { row := cfgAgainUptoRow, standIns := [], harness := (true, "499744621ff4726611782f20068178ffe3b83ec6480a1ef01c172ed9ea8096f7"), looks := false }, kinds := [], alts := [], laidByText := true, laidKinds := [.data, .data, .data, .data, .pinned], laidTests := true, laidLooks := .later }
def CfgAgainUptoCardSaid : Prop := Claim7.holds Tryd.pinned (.plain (OpenSpec.upto cfgAgainSpec)) cfgAgainUptoCard
end Rows
end Go.Proofs.YtgoafahglajfmaaDoor
