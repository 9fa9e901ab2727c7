/-
  DERIVED. GIVEN WITH THE SEED: THE CARDS: each row of YtpjmogakimelaaaDoorRows.lean that lists a variable, with what it lists TIED to the program's text (the seventh form; the later family's looks); each row that meets fmt, with fmt's text TOLD by the authors' own Lean function (tested against real Go, not proved from fmt's source: count such statements apart). THE CARD IS WHAT COUNTS. Prove the row's statement (the work); the ties are given (YtpjmogakimelaaaDoorTie.lean); close each card by the builder's one call (the guide's Derived/Test/ToyasCard.lean, 'card_holds'). Laid BY PROGRAM, IN A SANDBOX (cutbox-door.mjs). By AI agents, Wed Nov 11 2026. No macro, syntax, notation, axiom, sorry.
-/
import Derived.Test.YtpjmogakimelaaaDoorRows
import GoSem.ClaimSeven
namespace Go.Proofs.YtpjmogakimelaaaDoor
namespace Rows

/-- THE TIED CARD OF 'berthagelaw03.SetNodes'. -/
def setNodesCard : Claim7 := { stood := { row := setNodesRow, standIns := [], harness := (true, "5ef982c2323ac0a266851977c858f9a8de48447c3a57c23afe50448f06dd8690"), looks := false }, kinds := [], alts := [], laidByText := true, laidKinds := [.data], laidTests := true, laidLooks := .later }
def SetNodesCardSaid : Prop := Claim7.holds Tryd.pinned (.plain (OpenSpec.ofChange setNodesSpec)) setNodesCard

/-- THE SECOND FORM's CARD OF 'berthagelaw03.SetNodes'. -/
def setNodesUptoCard : Claim7 := { stood := { row := setNodesUptoRow, standIns := [], harness := (true, "5ef982c2323ac0a266851977c858f9a8de48447c3a57c23afe50448f06dd8690"), looks := false }, kinds := [], alts := [], laidByText := true, laidKinds := [.data], laidTests := true, laidLooks := .later }
def SetNodesUptoCardSaid : Prop := Claim7.holds Tryd.pinned (.plain (OpenSpec.upto setNodesSpec)) setNodesUptoCard
end Rows
end Go.Proofs.YtpjmogakimelaaaDoor
