/-
  DERIVED. GIVEN WITH THE SEED: THE CARDS: each row of YtfnajccnlcfbiaaDoorRows.lean that lists a variable, with what it lists TIED to the program's text (the seventh form; the later family's looks); each row that meets fmt, with fmt's text TOLD by the authors' own Lean function (tested against real Go, not proved from fmt's source: count such statements apart). THE CARD IS WHAT COUNTS. Prove the row's statement (the work); the ties are given (YtfnajccnlcfbiaaDoorTie.lean); close each card by the builder's one call (the guide's Derived/Test/ToyasCard.lean, 'card_holds'). Laid BY PROGRAM, IN A SANDBOX (cutbox-door.mjs). By AI agents, Wed Nov 11 2026. No macro, syntax, notation, axiom, sorry.
-/
import Derived.Test.YtfnajccnlcfbiaaDoorRows
import GoSem.ClaimSeven
namespace Go.Proofs.YtfnajccnlcfbiaaDoor
namespace Rows

/-- THE TIED CARD OF 'regraterlaw15.ExprTells'. -/
def exprTellsCard : Claim7 := { stood := { row := exprTellsRow, standIns := [], harness := (true, "9ef5e37a63cc94387825a2ff71080f74ac0fefcaa523ef0ccc2cb57931d92a50"), looks := false }, kinds := [], alts := [], laidByText := true, laidKinds := [.data, .data, .data, .data, .data, .data, .pinned], laidTests := true, laidLooks := .later }
def ExprTellsCardSaid : Prop := Claim7.holds Tryd.pinned (.plain (OpenSpec.ofChange exprTellsSpec)) exprTellsCard

/-- THE TIED CARD OF 'regraterlaw15.ExprShown'. -/
def exprShownCard : Claim7 := { stood := { row := exprShownRow, standIns := [], harness := (true, "9ef5e37a63cc94387825a2ff71080f74ac0fefcaa523ef0ccc2cb57931d92a50"), looks := false }, kinds := [], alts := [], laidByText := true, laidKinds := [.data, .data, .data, .data, .data, .data, .pinned], laidTests := true, laidLooks := .later }
def ExprShownCardSaid : Prop := Claim7.holds Tryd.pinned (.plain (OpenSpec.ofChange exprShownSpec)) exprShownCard

/-- THE SECOND FORM's CARD OF 'regraterlaw15.ExprTells'. -/
def exprTellsUptoCard : Claim7 := { stood := { row := exprTellsUptoRow, standIns := [], harness := (true, "9ef5e37a63cc94387825a2ff71080f74ac0fefcaa523ef0ccc2cb57931d92a50"), looks := false }, kinds := [], alts := [], laidByText := true, laidKinds := [.data, .data, .data, .data, .data, .data, .pinned], laidTests := true, laidLooks := .later }
def ExprTellsUptoCardSaid : Prop := Claim7.holds Tryd.pinned (.plain (OpenSpec.upto exprTellsSpec)) exprTellsUptoCard

/-- THE SECOND FORM's CARD OF 'regraterlaw15.ExprShown'. -/
def exprShownUptoCard : Claim7 := { stood := { row := exprShownUptoRow, standIns := [], harness := (true, "9ef5e37a63cc94387825a2ff71080f74ac0fefcaa523ef0ccc2cb57931d92a50"), looks := false }, kinds := [], alts := [], laidByText := true, laidKinds := [.data, .data, .data, .data, .data, .data, .pinned], laidTests := true, laidLooks := .later }
def ExprShownUptoCardSaid : Prop := Claim7.holds Tryd.pinned (.plain (OpenSpec.upto exprShownSpec)) exprShownUptoCard
end Rows
end Go.Proofs.YtfnajccnlcfbiaaDoor
