/-
  DERIVED. GIVEN WITH THE SEED: THE CARDS: each row of YtjinbinnjpjniaaDoorRows.lean that lists a variable, with what it lists TIED to the program's text (the seventh form; the later family's looks); each row that meets fmt, with fmt's text TOLD by the authors' own Lean function (tested against real Go, not proved from fmt's source: count such statements apart). THE CARD IS WHAT COUNTS. Prove the row's statement (the work); the ties are given (YtjinbinnjpjniaaDoorTie.lean); close each card by the builder's one call (the guide's Derived/Test/ToyasCard.lean, 'card_holds'). Laid BY PROGRAM, IN A SANDBOX (cutbox-door.mjs). By AI agents, Wed Nov 11 2026. No macro, syntax, notation, axiom, sorry.
-/
import Derived.Test.YtjinbinnjpjniaaDoorRows
import GoSem.ClaimSeven
namespace Go.Proofs.YtjinbinnjpjniaaDoor
namespace Rows

/-- THE TIED CARD OF 'laws.FnTrmBytes'. -/
def fnTrmBytesCard : Claim7 := { stood := { row := fnTrmBytesRow, standIns := [], harness := (true, "3343fb9a6e705f6df46bcee43bac88521f50cbb3a846ecf9feb93a8cbac6fb04"), looks := false }, kinds := [], alts := [], laidByText := true, laidKinds := [.sentinel, .sentinel, .sentinel], laidTests := true, laidLooks := .later }
def FnTrmBytesCardSaid : Prop := Claim7.holds Tryd.pinned (.plain (OpenSpec.ofChange fnTrmBytesSpec)) fnTrmBytesCard

/-- THE TIED CARD OF 'laws.FnExactTrmTake'. -/
def fnExactTrmTakeCard : Claim7 := { stood := { row := fnExactTrmTakeRow, standIns := [], harness := (true, "3343fb9a6e705f6df46bcee43bac88521f50cbb3a846ecf9feb93a8cbac6fb04"), looks := false }, kinds := [], alts := [], laidByText := true, laidKinds := [.sentinel, .sentinel, .sentinel], laidTests := true, laidLooks := .later }
def FnExactTrmTakeCardSaid : Prop := Claim7.holds Tryd.pinned (.plain (OpenSpec.ofChange fnExactTrmTakeSpec)) fnExactTrmTakeCard

/-- THE TIED CARD OF 'laws.FnExactMsgRead'. -/
def fnExactMsgReadCard : Claim7 := { stood := { row := fnExactMsgReadRow, standIns := [], harness := (true, "3343fb9a6e705f6df46bcee43bac88521f50cbb3a846ecf9feb93a8cbac6fb04"), looks := false }, kinds := [], alts := [], laidByText := true, laidKinds := [.sentinel, .sentinel, .sentinel, .sentinel, .sentinel], laidTests := true, laidLooks := .later }
def FnExactMsgReadCardSaid : Prop := Claim7.holds Tryd.pinned (.plain (OpenSpec.ofChange fnExactMsgReadSpec)) fnExactMsgReadCard

/-- THE SECOND FORM's CARD OF 'laws.FnTrmBytes'. -/
def fnTrmBytesUptoCard : Claim7 := { stood := { row := fnTrmBytesUptoRow, standIns := [], harness := (true, "3343fb9a6e705f6df46bcee43bac88521f50cbb3a846ecf9feb93a8cbac6fb04"), looks := false }, kinds := [], alts := [], laidByText := true, laidKinds := [.sentinel, .sentinel, .sentinel], laidTests := true, laidLooks := .later }
def FnTrmBytesUptoCardSaid : Prop := Claim7.holds Tryd.pinned (.plain (OpenSpec.upto fnTrmBytesSpec)) fnTrmBytesUptoCard

/-- THE SECOND FORM's CARD OF 'laws.FnExactTrmTake'. -/
def fnExactTrmTakeUptoCard : Claim7 := { stood := { row := fnExactTrmTakeUptoRow, standIns := [], harness := (true, "3343fb9a6e705f6df46bcee43bac88521f50cbb3a846ecf9feb93a8cbac6fb04"), looks := false }, kinds := [], alts := [], laidByText := true, laidKinds := [.sentinel, .sentinel, .sentinel], laidTests := true, laidLooks := .later }
def FnExactTrmTakeUptoCardSaid : Prop := Claim7.holds Tryd.pinned (.plain (OpenSpec.upto fnExactTrmTakeSpec)) fnExactTrmTakeUptoCard

/-- THE SECOND FORM's CARD OF 'laws.FnExactMsgRead'. -/
def fnExactMsgReadUptoCard : Claim7 := { stood := { row := fnExactMsgReadUptoRow, standIns := [], harness := (true, "3343fb9a6e705f6df46bcee43bac88521f50cbb3a846ecf9feb93a8cbac6fb04"), looks := false }, kinds := [], alts := [], laidByText := true, laidKinds := [.sentinel, .sentinel, .sentinel, .sentinel, .sentinel], laidTests := true, laidLooks := .later }
def FnExactMsgReadUptoCardSaid : Prop := Claim7.holds Tryd.pinned (.plain (OpenSpec.upto fnExactMsgReadSpec)) fnExactMsgReadUptoCard
end Rows
end Go.Proofs.YtjinbinnjpjniaaDoor
