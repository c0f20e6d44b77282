/-
  DERIVED. GIVEN WITH THE SEED: THE CARDS: each row of YtjjpmlcaapedhaaDoorRows.lean that lists a variable, with what it lists TIED to the program's text (the seventh form; the later family's looks); each row that meets fmt, with fmt's text TOLD by the authors' own Lean function (tested against real Go, not proved from fmt's source: count such statements apart). THE CARD IS WHAT COUNTS. Prove the row's statement (the work); the ties are given (YtjjpmlcaapedhaaDoorTie.lean); close each card by the builder's one call (the guide's Derived/Test/ToyasCard.lean, 'card_holds'). Laid BY PROGRAM, IN A SANDBOX (cutbox-door.mjs). By AI agents, Wed Nov 11 2026. No macro, syntax, notation, axiom, sorry.
-/
import Derived.Test.YtjjpmlcaapedhaaDoorRows
import GoSem.ClaimSeven
namespace Go.Proofs.YtjjpmlcaapedhaaDoor
namespace Rows

/-- THE TIED CARD OF 'laws.FnTrmText'. -/
def fnTrmTextCard : Claim7 := { stood := { row := fnTrmTextRow, standIns := [], harness := (true, "12885b96b14bc242a241c11c8bfa2c929c1ef3d9b082e0f1a752e6f452c47022"), looks := true }, kinds := [], alts := [], laidByText := true, laidKinds := [.data, .data, .data, .sentinel, .sentinel], laidTests := true, laidLooks := .later }
def FnTrmTextCardSaid : Prop := Claim7.holds Tryd.pinned (.plain (OpenSpec.ofChange fnTrmTextSpec)) fnTrmTextCard

/-- THE TIED CARD OF 'laws.FnExactTrmRead'. -/
def fnExactTrmReadCard : Claim7 := { stood := { row := fnExactTrmReadRow, standIns := [], harness := (true, "12885b96b14bc242a241c11c8bfa2c929c1ef3d9b082e0f1a752e6f452c47022"), looks := true }, kinds := [], alts := [], laidByText := true, laidKinds := [.data, .data, .data, .sentinel, .sentinel], laidTests := true, laidLooks := .later }
def FnExactTrmReadCardSaid : Prop := Claim7.holds Tryd.pinned (.plain (OpenSpec.ofChange fnExactTrmReadSpec)) fnExactTrmReadCard

/-- THE SECOND FORM's CARD OF 'laws.FnTrmText'. -/
def fnTrmTextUptoCard : Claim7 := { stood := { row := fnTrmTextUptoRow, standIns := [], harness := (true, "12885b96b14bc242a241c11c8bfa2c929c1ef3d9b082e0f1a752e6f452c47022"), looks := true }, kinds := [], alts := [], laidByText := true, laidKinds := [.data, .data, .data, .sentinel, .sentinel], laidTests := true, laidLooks := .later }
def FnTrmTextUptoCardSaid : Prop := Claim7.holds Tryd.pinned (.plain (OpenSpec.upto fnTrmTextSpec)) fnTrmTextUptoCard

/-- THE SECOND FORM's CARD OF 'laws.FnExactTrmRead'. -/
def fnExactTrmReadUptoCard : Claim7 := { stood := { row := fnExactTrmReadUptoRow, standIns := [], harness := (true, "12885b96b14bc242a241c11c8bfa2c929c1ef3d9b082e0f1a752e6f452c47022"), looks := true }, kinds := [], alts := [], laidByText := true, laidKinds := [.data, .data, .data, .sentinel, .sentinel], laidTests := true, laidLooks := .later }
def FnExactTrmReadUptoCardSaid : Prop := Claim7.holds Tryd.pinned (.plain (OpenSpec.upto fnExactTrmReadSpec)) fnExactTrmReadUptoCard
end Rows
end Go.Proofs.YtjjpmlcaapedhaaDoor
