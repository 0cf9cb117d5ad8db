/-
  DERIVED. GIVEN WITH THE SEED: THE CARDS: each row of YtdmdoikkemfcaabDoorRows.lean that lists a variable, with what it lists TIED to the program's text (the seventh form; the later family's looks); each row that meets fmt, with fmt's text TOLD by the authors' own Lean function (tested against real Go, not proved from fmt's source: count such statements apart). THE CARD IS WHAT COUNTS. Prove the row's statement (the work); the ties are given (YtdmdoikkemfcaabDoorTie.lean); close each card by the builder's one call (the guide's Derived/Test/ToyasCard.lean, 'card_holds'). Laid BY PROGRAM, IN A SANDBOX (cutbox-door.mjs). By AI agents, Wed Nov 11 2026. No macro, syntax, notation, axiom, sorry.
-/
import Derived.Test.YtdmdoikkemfcaabDoorRows
import GoSem.ClaimSeven
namespace Go.Proofs.YtdmdoikkemfcaabDoor
namespace Rows

/-- THE TIED CARD OF 'quietwinglaw2.RolesFew'. -/
def rolesFewCard : Claim7 := { stood := { row := rolesFewRow, standIns := [], harness := (true, "3658a29da54e9530c52f41c501f3e714c9145aef2646bd7de6d69d43edc29729"), looks := true }, kinds := [], alts := [], laidByText := true, laidKinds := [.data], laidTests := true, laidLooks := .later }
def RolesFewCardSaid : Prop := Claim7.holds Tryd.pinned (.plain (OpenSpec.ofChange rolesFewSpec)) rolesFewCard

/-- THE TIED CARD OF 'quietwinglaw3.ProgAgain'. -/
def progAgainCard : Claim7 := { stood := { row := progAgainRow, standIns := [], harness := (true, "3658a29da54e9530c52f41c501f3e714c9145aef2646bd7de6d69d43edc29729"), looks := true }, kinds := [], alts := [], laidByText := true, laidKinds := [.data, .data, .data, .data, .sentinel, .sentinel, .pinned], laidTests := true, laidLooks := .later }
def ProgAgainCardSaid : Prop := Claim7.holds Tryd.pinned (.plain (OpenSpec.ofChange progAgainSpec)) progAgainCard

/-- THE SECOND FORM's CARD OF 'quietwinglaw2.RolesFew'. -/
def rolesFewUptoCard : Claim7 := { stood := { row := rolesFewUptoRow, standIns := [], harness := (true, "3658a29da54e9530c52f41c501f3e714c9145aef2646bd7de6d69d43edc29729"), looks := true }, kinds := [], alts := [], laidByText := true, laidKinds := [.data], laidTests := true, laidLooks := .later }
def RolesFewUptoCardSaid : Prop := Claim7.holds Tryd.pinned (.plain (OpenSpec.upto rolesFewSpec)) rolesFewUptoCard

/-- THE SECOND FORM's CARD OF 'quietwinglaw3.ProgAgain'. -/
def progAgainUptoCard : Claim7 := { stood := { row := progAgainUptoRow, standIns := [], harness := (true, "3658a29da54e9530c52f41c501f3e714c9145aef2646bd7de6d69d43edc29729"), looks := true }, kinds := [], alts := [], laidByText := true, laidKinds := [.data, .data, .data, .data, .sentinel, .sentinel, .pinned], laidTests := true, laidLooks := .later }
def ProgAgainUptoCardSaid : Prop := Claim7.holds Tryd.pinned (.plain (OpenSpec.upto progAgainSpec)) progAgainUptoCard
end Rows
end Go.Proofs.YtdmdoikkemfcaabDoor
