/-
  DERIVED. GIVEN WITH THE SEED: THE CARDS: each row of YtdmdoikkemfcaaaDoorRows.lean that lists a variable, with what it lists TIED to the program's text (the seventh form; the later family's looks); each row that meets fmt, with fmt's text TOLD by the authors' own Lean function (tested against real Go, not proved from fmt's source: count such statements apart). THE CARD IS WHAT COUNTS. Prove the row's statement (the work); the ties are given (YtdmdoikkemfcaaaDoorTie.lean); close each card by the builder's one call (the guide's Derived/Test/ToyasCard.lean, 'card_holds'). Laid BY PROGRAM, IN A SANDBOX (cutbox-door.mjs). By AI agents, Wed Nov 11 2026. No macro, syntax, notation, axiom, sorry.
-/
import Derived.Test.YtdmdoikkemfcaaaDoorRows
import GoSem.ClaimSeven
namespace Go.Proofs.YtdmdoikkemfcaaaDoor
namespace Rows

/-- THE TIED CARD OF 'quietwinglaw2.TakePlan'. -/
def takePlanCard : Claim7 := { stood := { row := takePlanRow, standIns := [], harness := (true, "01e60d4d0d52e405baf9e4ce00e2e62e54ca293c0e66cca51e2d9d5216c2c7ed"), looks := true }, kinds := [], alts := [], laidByText := true, laidKinds := [.data, .handle], laidTests := true, laidLooks := .later }
def TakePlanCardSaid : Prop := Claim7.holds Tryd.pinned (.plain (OpenSpec.ofChange takePlanSpec)) takePlanCard

/-- THE TIED CARD OF 'quietwinglaw2.TakeSound'. -/
def takeSoundCard : Claim7 := { stood := { row := takeSoundRow, standIns := [], harness := (true, "01e60d4d0d52e405baf9e4ce00e2e62e54ca293c0e66cca51e2d9d5216c2c7ed"), looks := true }, kinds := [], alts := [], laidByText := true, laidKinds := [.data], laidTests := true, laidLooks := .later }
def TakeSoundCardSaid : Prop := Claim7.holds Tryd.pinned (.plain (OpenSpec.ofChange takeSoundSpec)) takeSoundCard

/-- THE TIED CARD OF 'quietwinglaw2.TakeStays'. -/
def takeStaysCard : Claim7 := { stood := { row := takeStaysRow, standIns := [], harness := (true, "01e60d4d0d52e405baf9e4ce00e2e62e54ca293c0e66cca51e2d9d5216c2c7ed"), looks := true }, kinds := [], alts := [], laidByText := true, laidKinds := [.data], laidTests := true, laidLooks := .later }
def TakeStaysCardSaid : Prop := Claim7.holds Tryd.pinned (.plain (OpenSpec.ofChange takeStaysSpec)) takeStaysCard

/-- THE TIED CARD OF 'quietwinglaw2.RolesSays'. -/
def rolesSaysCard : Claim7 := { stood := { row := rolesSaysRow, standIns := [], harness := (true, "01e60d4d0d52e405baf9e4ce00e2e62e54ca293c0e66cca51e2d9d5216c2c7ed"), looks := true }, kinds := [], alts := [], laidByText := true, laidKinds := [.data, .handle], laidTests := true, laidLooks := .later }
def RolesSaysCardSaid : Prop := Claim7.holds Tryd.pinned (.plain (OpenSpec.ofChange rolesSaysSpec)) rolesSaysCard

/-- THE TIED CARD OF 'quietwinglaw2.RolesAbove'. -/
def rolesAboveCard : Claim7 := { stood := { row := rolesAboveRow, standIns := [], harness := (true, "01e60d4d0d52e405baf9e4ce00e2e62e54ca293c0e66cca51e2d9d5216c2c7ed"), looks := true }, kinds := [], alts := [], laidByText := true, laidKinds := [.data], laidTests := true, laidLooks := .later }
def RolesAboveCardSaid : Prop := Claim7.holds Tryd.pinned (.plain (OpenSpec.ofChange rolesAboveSpec)) rolesAboveCard

/-- THE TIED CARD OF 'quietwinglaw2.RolesNeed'. -/
def rolesNeedCard : Claim7 := { stood := { row := rolesNeedRow, standIns := [], harness := (true, "01e60d4d0d52e405baf9e4ce00e2e62e54ca293c0e66cca51e2d9d5216c2c7ed"), looks := true }, kinds := [], alts := [], laidByText := true, laidKinds := [.data], laidTests := true, laidLooks := .later }
def RolesNeedCardSaid : Prop := Claim7.holds Tryd.pinned (.plain (OpenSpec.ofChange rolesNeedSpec)) rolesNeedCard

/-- THE SECOND FORM's CARD OF 'quietwinglaw2.TakePlan'. -/
def takePlanUptoCard : Claim7 := { stood := { row := takePlanUptoRow, standIns := [], harness := (true, "01e60d4d0d52e405baf9e4ce00e2e62e54ca293c0e66cca51e2d9d5216c2c7ed"), looks := true }, kinds := [], alts := [], laidByText := true, laidKinds := [.data, .handle], laidTests := true, laidLooks := .later }
def TakePlanUptoCardSaid : Prop := Claim7.holds Tryd.pinned (.plain (OpenSpec.upto takePlanSpec)) takePlanUptoCard

/-- THE SECOND FORM's CARD OF 'quietwinglaw2.TakeSound'. -/
def takeSoundUptoCard : Claim7 := { stood := { row := takeSoundUptoRow, standIns := [], harness := (true, "01e60d4d0d52e405baf9e4ce00e2e62e54ca293c0e66cca51e2d9d5216c2c7ed"), looks := true }, kinds := [], alts := [], laidByText := true, laidKinds := [.data], laidTests := true, laidLooks := .later }
def TakeSoundUptoCardSaid : Prop := Claim7.holds Tryd.pinned (.plain (OpenSpec.upto takeSoundSpec)) takeSoundUptoCard

/-- THE SECOND FORM's CARD OF 'quietwinglaw2.TakeStays'. -/
def takeStaysUptoCard : Claim7 := { stood := { row := takeStaysUptoRow, standIns := [], harness := (true, "01e60d4d0d52e405baf9e4ce00e2e62e54ca293c0e66cca51e2d9d5216c2c7ed"), looks := true }, kinds := [], alts := [], laidByText := true, laidKinds := [.data], laidTests := true, laidLooks := .later }
def TakeStaysUptoCardSaid : Prop := Claim7.holds Tryd.pinned (.plain (OpenSpec.upto takeStaysSpec)) takeStaysUptoCard

/-- THE SECOND FORM's CARD OF 'quietwinglaw2.RolesSays'. -/
def rolesSaysUptoCard : Claim7 := { stood := { row := rolesSaysUptoRow, standIns := [], harness := (true, "01e60d4d0d52e405baf9e4ce00e2e62e54ca293c0e66cca51e2d9d5216c2c7ed"), looks := true }, kinds := [], alts := [], laidByText := true, laidKinds := [.data, .handle], laidTests := true, laidLooks := .later }
def RolesSaysUptoCardSaid : Prop := Claim7.holds Tryd.pinned (.plain (OpenSpec.upto rolesSaysSpec)) rolesSaysUptoCard

/-- THE SECOND FORM's CARD OF 'quietwinglaw2.RolesAbove'. -/
def rolesAboveUptoCard : Claim7 := { stood := { row := rolesAboveUptoRow, standIns := [], harness := (true, "01e60d4d0d52e405baf9e4ce00e2e62e54ca293c0e66cca51e2d9d5216c2c7ed"), looks := true }, kinds := [], alts := [], laidByText := true, laidKinds := [.data], laidTests := true, laidLooks := .later }
def RolesAboveUptoCardSaid : Prop := Claim7.holds Tryd.pinned (.plain (OpenSpec.upto rolesAboveSpec)) rolesAboveUptoCard

/-- THE SECOND FORM's CARD OF 'quietwinglaw2.RolesNeed'. -/
def rolesNeedUptoCard : Claim7 := { stood := { row := rolesNeedUptoRow, standIns := [], harness := (true, "01e60d4d0d52e405baf9e4ce00e2e62e54ca293c0e66cca51e2d9d5216c2c7ed"), looks := true }, kinds := [], alts := [], laidByText := true, laidKinds := [.data], laidTests := true, laidLooks := .later }
def RolesNeedUptoCardSaid : Prop := Claim7.holds Tryd.pinned (.plain (OpenSpec.upto rolesNeedSpec)) rolesNeedUptoCard
end Rows
end Go.Proofs.YtdmdoikkemfcaaaDoor
