/-
  DERIVED. GIVEN WITH THE SEED: THE CARDS: each row of YtkhphdmdpnmclaaDoorRows.lean that lists a variable, with what it lists TIED to the program's text (the seventh form; the later family's looks); each row that meets fmt, with fmt's text TOLD by the authors' own Lean function (tested against real Go, not proved from fmt's source: count such statements apart). THE CARD IS WHAT COUNTS. Prove the row's statement (the work); the ties are given (YtkhphdmdpnmclaaDoorTie.lean); close each card by the builder's one call (the guide's Derived/Test/ToyasCard.lean, 'card_holds'). Laid BY PROGRAM, IN A SANDBOX (cutbox-door.mjs). By AI agents, Wed Nov 11 2026. No macro, syntax, notation, axiom, sorry.
-/
import Derived.Test.YtkhphdmdpnmclaaDoorRows
import GoSem.ClaimSeven
namespace Go.Proofs.YtkhphdmdpnmclaaDoor
namespace Rows

/-- THE TIED CARD OF 'quietwinglaw1.RelSays'. -/
def relSaysCard : Claim7 := { stood := { row := relSaysRow, standIns := [], harness := (true, "f27e19cb4ab9023b3275dcbdafea4567773d33388279bff5cdcc77d8f09ec72c"), looks := true }, kinds := [], alts := [], laidByText := true, laidKinds := [.data, .handle], laidTests := true, laidLooks := .later }
def RelSaysCardSaid : Prop := Claim7.holds Tryd.pinned (.plain (OpenSpec.ofChange relSaysSpec)) relSaysCard

/-- THE TIED CARD OF 'quietwinglaw1.RelWay'. -/
def relWayCard : Claim7 := { stood := { row := relWayRow, standIns := [], harness := (true, "f27e19cb4ab9023b3275dcbdafea4567773d33388279bff5cdcc77d8f09ec72c"), looks := true }, kinds := [], alts := [], laidByText := true, laidKinds := [.data, .handle], laidTests := true, laidLooks := .later }
def RelWayCardSaid : Prop := Claim7.holds Tryd.pinned (.plain (OpenSpec.ofChange relWaySpec)) relWayCard

/-- THE SECOND FORM's CARD OF 'quietwinglaw1.RelSays'. -/
def relSaysUptoCard : Claim7 := { stood := { row := relSaysUptoRow, standIns := [], harness := (true, "f27e19cb4ab9023b3275dcbdafea4567773d33388279bff5cdcc77d8f09ec72c"), looks := true }, kinds := [], alts := [], laidByText := true, laidKinds := [.data, .handle], laidTests := true, laidLooks := .later }
def RelSaysUptoCardSaid : Prop := Claim7.holds Tryd.pinned (.plain (OpenSpec.upto relSaysSpec)) relSaysUptoCard

/-- THE SECOND FORM's CARD OF 'quietwinglaw1.RelWay'. -/
def relWayUptoCard : Claim7 := { stood := { row := relWayUptoRow, standIns := [], harness := (true, "f27e19cb4ab9023b3275dcbdafea4567773d33388279bff5cdcc77d8f09ec72c"), looks := true }, kinds := [], alts := [], laidByText := true, laidKinds := [.data, .handle], laidTests := true, laidLooks := .later }
def RelWayUptoCardSaid : Prop := Claim7.holds Tryd.pinned (.plain (OpenSpec.upto relWaySpec)) relWayUptoCard
end Rows
end Go.Proofs.YtkhphdmdpnmclaaDoor
