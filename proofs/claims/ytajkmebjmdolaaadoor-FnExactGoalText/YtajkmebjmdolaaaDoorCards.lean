/-
  DERIVED. GIVEN WITH THE SEED: THE CARDS: each row of YtajkmebjmdolaaaDoorRows.lean that lists a variable, with what it lists TIED to the program's text (the seventh form; the later family's looks); each row that meets fmt, with fmt's text TOLD by the authors' own Lean function (tested against real Go, not proved from fmt's source: count such statements apart). THE CARD IS WHAT COUNTS. Prove the row's statement (the work); the ties are given (YtajkmebjmdolaaaDoorTie.lean); close each card by the builder's one call (the guide's Derived/Test/ToyasCard.lean, 'card_holds'). Laid BY PROGRAM, IN A SANDBOX (cutbox-door.mjs). By AI agents, Wed Nov 11 2026. No macro, syntax, notation, axiom, sorry.
-/
import Derived.Test.YtajkmebjmdolaaaDoorRows
import GoSem.ClaimSeven
namespace Go.Proofs.YtajkmebjmdolaaaDoor
namespace Rows

/-- THE TIED CARD OF 'laws.FnExactGoalText'. -/
def fnExactGoalTextCard : Claim7 := { stood := { row := fnExactGoalTextRow, standIns := [], harness := (true, "1aeed0df07518f39a971244eea73cfaa5ef02d8b6e8eb1131ea12431fb2cac0b"), looks := true }, kinds := [], alts := [], laidByText := true, laidKinds := [.data, .data, .data], laidTests := true, laidLooks := .later }
def FnExactGoalTextCardSaid : Prop := Claim7.holds Tryd.pinned (.plain (OpenSpec.ofChange fnExactGoalTextSpec)) fnExactGoalTextCard

/-- THE TIED CARD OF 'laws.FnExactOutText'. -/
def fnExactOutTextCard : Claim7 := { stood := { row := fnExactOutTextRow, standIns := [], harness := (true, "1aeed0df07518f39a971244eea73cfaa5ef02d8b6e8eb1131ea12431fb2cac0b"), looks := true }, kinds := [], alts := [], laidByText := true, laidKinds := [.data, .data, .data], laidTests := true, laidLooks := .later }
def FnExactOutTextCardSaid : Prop := Claim7.holds Tryd.pinned (.plain (OpenSpec.ofChange fnExactOutTextSpec)) fnExactOutTextCard

/-- THE SECOND FORM's CARD OF 'laws.FnExactGoalText'. -/
def fnExactGoalTextUptoCard : Claim7 := { stood := { row := fnExactGoalTextUptoRow, standIns := [], harness := (true, "1aeed0df07518f39a971244eea73cfaa5ef02d8b6e8eb1131ea12431fb2cac0b"), looks := true }, kinds := [], alts := [], laidByText := true, laidKinds := [.data, .data, .data], laidTests := true, laidLooks := .later }
def FnExactGoalTextUptoCardSaid : Prop := Claim7.holds Tryd.pinned (.plain (OpenSpec.upto fnExactGoalTextSpec)) fnExactGoalTextUptoCard

/-- THE SECOND FORM's CARD OF 'laws.FnExactOutText'. -/
def fnExactOutTextUptoCard : Claim7 := { stood := { row := fnExactOutTextUptoRow, standIns := [], harness := (true, "1aeed0df07518f39a971244eea73cfaa5ef02d8b6e8eb1131ea12431fb2cac0b"), looks := true }, kinds := [], alts := [], laidByText := true, laidKinds := [.data, .data, .data], laidTests := true, laidLooks := .later }
def FnExactOutTextUptoCardSaid : Prop := Claim7.holds Tryd.pinned (.plain (OpenSpec.upto fnExactOutTextSpec)) fnExactOutTextUptoCard
end Rows
end Go.Proofs.YtajkmebjmdolaaaDoor
