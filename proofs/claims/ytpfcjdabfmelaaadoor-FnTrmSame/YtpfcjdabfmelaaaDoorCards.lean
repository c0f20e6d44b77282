/-
  DERIVED. GIVEN WITH THE SEED: THE CARDS: each row of YtpfcjdabfmelaaaDoorRows.lean that lists a variable, with what it lists TIED to the program's text (the seventh form; the later family's looks); each row that meets fmt, with fmt's text TOLD by the authors' own Lean function (tested against real Go, not proved from fmt's source: count such statements apart). THE CARD IS WHAT COUNTS. Prove the row's statement (the work); the ties are given (YtpfcjdabfmelaaaDoorTie.lean); close each card by the builder's one call (the guide's Derived/Test/ToyasCard.lean, 'card_holds'). Laid BY PROGRAM, IN A SANDBOX (cutbox-door.mjs). By AI agents, Wed Nov 11 2026. No macro, syntax, notation, axiom, sorry.
-/
import Derived.Test.YtpfcjdabfmelaaaDoorRows
import GoSem.ClaimSeven
namespace Go.Proofs.YtpfcjdabfmelaaaDoor
namespace Rows

/-- THE TIED CARD OF 'laws.FnTrmSame'. -/
def fnTrmSameCard : Claim7 := { stood := { row := fnTrmSameRow, standIns := [], harness := (true, "a0846aaf5408a3fcc5e755b08b44645116b4f633d53ff3fae610fd4a7c0706ba"), looks := false }, kinds := [], alts := [], laidByText := true, laidKinds := [.data, .data, .data], laidTests := true, laidLooks := .later }
def FnTrmSameCardSaid : Prop := Claim7.holds Tryd.pinned (.plain (OpenSpec.ofChange fnTrmSameSpec)) fnTrmSameCard

/-- THE SECOND FORM's CARD OF 'laws.FnTrmSame'. -/
def fnTrmSameUptoCard : Claim7 := { stood := { row := fnTrmSameUptoRow, standIns := [], harness := (true, "a0846aaf5408a3fcc5e755b08b44645116b4f633d53ff3fae610fd4a7c0706ba"), looks := false }, kinds := [], alts := [], laidByText := true, laidKinds := [.data, .data, .data], laidTests := true, laidLooks := .later }
def FnTrmSameUptoCardSaid : Prop := Claim7.holds Tryd.pinned (.plain (OpenSpec.upto fnTrmSameSpec)) fnTrmSameUptoCard
end Rows
end Go.Proofs.YtpfcjdabfmelaaaDoor
