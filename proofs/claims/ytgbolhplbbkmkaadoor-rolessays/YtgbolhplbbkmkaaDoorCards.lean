/-
  DERIVED. GIVEN WITH THE SEED: THE CARDS: each row of YtgbolhplbbkmkaaDoorRows.lean that lists a variable, with what it lists TIED to the program's text (the seventh form; the later family's looks); each row that meets fmt, with fmt's text TOLD by the authors' own Lean function (tested against real Go, not proved from fmt's source: count such statements apart). THE CARD IS WHAT COUNTS. Prove the row's statement (the work); the ties are given (YtgbolhplbbkmkaaDoorTie.lean); close each card by the builder's one call (the guide's Derived/Test/ToyasCard.lean, 'card_holds'). Laid BY PROGRAM, IN A SANDBOX (cutbox-door.mjs). By AI agents, Wed Nov 11 2026. No macro, syntax, notation, axiom, sorry.
-/
import Derived.Test.YtgbolhplbbkmkaaDoorRows
import GoSem.ClaimSeven
namespace Go.Proofs.YtgbolhplbbkmkaaDoor
namespace Rows

/-- THE TIED CARD OF 'quietwinglaw2.RolesSays'. -/
def rolesSaysCard : Claim7 := { stood := { row := rolesSaysRow, standIns := [], harness := (true, "5c7ad425ca83689d3be7fef22e633d6630b5c660c05f61a8ecdf559bc49c9b83"), looks := true }, kinds := [], alts := [], laidByText := true, laidKinds := [.data, .handle], laidTests := true, laidLooks := .later }
def RolesSaysCardSaid : Prop := Claim7.holds Tryd.pinned (.plain (OpenSpec.ofChange rolesSaysSpec)) rolesSaysCard

/-- THE TIED CARD OF 'quietwinglaw2.RolesAbove'. -/
def rolesAboveCard : Claim7 := { stood := { row := rolesAboveRow, standIns := [], harness := (true, "5c7ad425ca83689d3be7fef22e633d6630b5c660c05f61a8ecdf559bc49c9b83"), looks := true }, kinds := [], alts := [], laidByText := true, laidKinds := [.data], laidTests := true, laidLooks := .later }
def RolesAboveCardSaid : Prop := Claim7.holds Tryd.pinned (.plain (OpenSpec.ofChange rolesAboveSpec)) rolesAboveCard

/-- THE TIED CARD OF 'quietwinglaw2.RolesNeed'. -/
def rolesNeedCard : Claim7 := { stood := { row := rolesNeedRow, standIns := [], harness := (true, "5c7ad425ca83689d3be7fef22e633d6630b5c660c05f61a8ecdf559bc49c9b83"), looks := true }, kinds := [], alts := [], laidByText := true, laidKinds := [.data], laidTests := true, laidLooks := .later }
def RolesNeedCardSaid : Prop := Claim7.holds Tryd.pinned (.plain (OpenSpec.ofChange rolesNeedSpec)) rolesNeedCard

/-- THE TIED CARD OF 'quietwinglaw2.RolesFew'. -/
def rolesFewCard : Claim7 := { stood := { row := rolesFewRow, standIns := [], harness := (true, "5c7ad425ca83689d3be7fef22e633d6630b5c660c05f61a8ecdf559bc49c9b83"), looks := true }, kinds := [], alts := [], laidByText := true, laidKinds := [.data], laidTests := true, laidLooks := .later }
def RolesFewCardSaid : Prop := Claim7.holds Tryd.pinned (.plain (OpenSpec.ofChange rolesFewSpec)) rolesFewCard

/-- THE SECOND FORM's CARD OF 'quietwinglaw2.RolesSays'. -/
def rolesSaysUptoCard : Claim7 := { stood := { row := rolesSaysUptoRow, standIns := [], harness := (true, "5c7ad425ca83689d3be7fef22e633d6630b5c660c05f61a8ecdf559bc49c9b83"), looks := true }, kinds := [], alts := [], laidByText := true, laidKinds := [.data, .handle], laidTests := true, laidLooks := .later }
def RolesSaysUptoCardSaid : Prop := Claim7.holds Tryd.pinned (.plain (OpenSpec.upto rolesSaysSpec)) rolesSaysUptoCard

/-- THE SECOND FORM's CARD OF 'quietwinglaw2.RolesAbove'. -/
def rolesAboveUptoCard : Claim7 := { stood := { row := rolesAboveUptoRow, standIns := [], harness := (true, "5c7ad425ca83689d3be7fef22e633d6630b5c660c05f61a8ecdf559bc49c9b83"), looks := true }, kinds := [], alts := [], laidByText := true, laidKinds := [.data], laidTests := true, laidLooks := .later }
def RolesAboveUptoCardSaid : Prop := Claim7.holds Tryd.pinned (.plain (OpenSpec.upto rolesAboveSpec)) rolesAboveUptoCard

/-- THE SECOND FORM's CARD OF 'quietwinglaw2.RolesNeed'. -/
def rolesNeedUptoCard : Claim7 := { stood := { row := rolesNeedUptoRow, standIns := [], harness := (true, "5c7ad425ca83689d3be7fef22e633d6630b5c660c05f61a8ecdf559bc49c9b83"), looks := true }, kinds := [], alts := [], laidByText := true, laidKinds := [.data], laidTests := true, laidLooks := .later }
def RolesNeedUptoCardSaid : Prop := Claim7.holds Tryd.pinned (.plain (OpenSpec.upto rolesNeedSpec)) rolesNeedUptoCard

/-- THE SECOND FORM's CARD OF 'quietwinglaw2.RolesFew'. -/
def rolesFewUptoCard : Claim7 := { stood := { row := rolesFewUptoRow, standIns := [], harness := (true, "5c7ad425ca83689d3be7fef22e633d6630b5c660c05f61a8ecdf559bc49c9b83"), looks := true }, kinds := [], alts := [], laidByText := true, laidKinds := [.data], laidTests := true, laidLooks := .later }
def RolesFewUptoCardSaid : Prop := Claim7.holds Tryd.pinned (.plain (OpenSpec.upto rolesFewSpec)) rolesFewUptoCard
end Rows
end Go.Proofs.YtgbolhplbbkmkaaDoor
