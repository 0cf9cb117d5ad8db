/-
  DERIVED. GIVEN WITH THE SEED: THE CARDS: each row of YtioimgeeamchaaaDoorRows.lean that lists a variable, with what it lists TIED to the program's text (the seventh form; the later family's looks); each row that meets fmt, with fmt's text TOLD by the authors' own Lean function (tested against real Go, not proved from fmt's source: count such statements apart). THE CARD IS WHAT COUNTS. Prove the row's statement (the work); the ties are given (YtioimgeeamchaaaDoorTie.lean); close each card by the builder's one call (the guide's Derived/Test/ToyasCard.lean, 'card_holds'). Laid BY PROGRAM, IN A SANDBOX (cutbox-door.mjs). By AI agents, Wed Nov 11 2026. No macro, syntax, notation, axiom, sorry.
-/
import Derived.Test.YtioimgeeamchaaaDoorRows
import GoSem.ClaimSeven
namespace Go.Proofs.YtioimgeeamchaaaDoor
namespace Rows

/-- THE TIED CARD OF 'quietwinglaw3.FlowSays'. -/
def flowSaysCard : Claim7 := { stood := { row := flowSaysRow, standIns := [], harness := (true, "27f296d236f7fafe370d146cf9ec9bf89b18b3da39a3f22e8a4fa78575b51aea"), looks := true }, kinds := [], alts := [], laidByText := true, laidKinds := [.data, .handle], laidTests := true, laidLooks := .later }
def FlowSaysCardSaid : Prop := Claim7.holds Tryd.pinned (.plain (OpenSpec.ofChange flowSaysSpec)) flowSaysCard

/-- THE TIED CARD OF 'quietwinglaw3.FlowQuiet'. -/
def flowQuietCard : Claim7 := { stood := { row := flowQuietRow, standIns := [], harness := (true, "27f296d236f7fafe370d146cf9ec9bf89b18b3da39a3f22e8a4fa78575b51aea"), looks := true }, kinds := [], alts := [], laidByText := true, laidKinds := [.data], laidTests := true, laidLooks := .later }
def FlowQuietCardSaid : Prop := Claim7.holds Tryd.pinned (.plain (OpenSpec.ofChange flowQuietSpec)) flowQuietCard

/-- THE TIED CARD OF 'quietwinglaw3.FlowFrom'. -/
def flowFromCard : Claim7 := { stood := { row := flowFromRow, standIns := [], harness := (true, "27f296d236f7fafe370d146cf9ec9bf89b18b3da39a3f22e8a4fa78575b51aea"), looks := true }, kinds := [], alts := [], laidByText := true, laidKinds := [.data], laidTests := true, laidLooks := .later }
def FlowFromCardSaid : Prop := Claim7.holds Tryd.pinned (.plain (OpenSpec.ofChange flowFromSpec)) flowFromCard

/-- THE TIED CARD OF 'quietwinglaw3.FlowLevels'. -/
def flowLevelsCard : Claim7 := { stood := { row := flowLevelsRow, standIns := [], harness := (true, "27f296d236f7fafe370d146cf9ec9bf89b18b3da39a3f22e8a4fa78575b51aea"), looks := true }, kinds := [], alts := [], laidByText := true, laidKinds := [.data], laidTests := true, laidLooks := .later }
def FlowLevelsCardSaid : Prop := Claim7.holds Tryd.pinned (.plain (OpenSpec.ofChange flowLevelsSpec)) flowLevelsCard

/-- THE TIED CARD OF 'quietwinglaw3.FlowLeast'. -/
def flowLeastCard : Claim7 := { stood := { row := flowLeastRow, standIns := [], harness := (true, "27f296d236f7fafe370d146cf9ec9bf89b18b3da39a3f22e8a4fa78575b51aea"), looks := true }, kinds := [], alts := [], laidByText := true, laidKinds := [.data, .handle], laidTests := true, laidLooks := .later }
def FlowLeastCardSaid : Prop := Claim7.holds Tryd.pinned (.plain (OpenSpec.ofChange flowLeastSpec)) flowLeastCard

/-- THE SECOND FORM's CARD OF 'quietwinglaw3.FlowSays'. -/
def flowSaysUptoCard : Claim7 := { stood := { row := flowSaysUptoRow, standIns := [], harness := (true, "27f296d236f7fafe370d146cf9ec9bf89b18b3da39a3f22e8a4fa78575b51aea"), looks := true }, kinds := [], alts := [], laidByText := true, laidKinds := [.data, .handle], laidTests := true, laidLooks := .later }
def FlowSaysUptoCardSaid : Prop := Claim7.holds Tryd.pinned (.plain (OpenSpec.upto flowSaysSpec)) flowSaysUptoCard

/-- THE SECOND FORM's CARD OF 'quietwinglaw3.FlowQuiet'. -/
def flowQuietUptoCard : Claim7 := { stood := { row := flowQuietUptoRow, standIns := [], harness := (true, "27f296d236f7fafe370d146cf9ec9bf89b18b3da39a3f22e8a4fa78575b51aea"), looks := true }, kinds := [], alts := [], laidByText := true, laidKinds := [.data], laidTests := true, laidLooks := .later }
def FlowQuietUptoCardSaid : Prop := Claim7.holds Tryd.pinned (.plain (OpenSpec.upto flowQuietSpec)) flowQuietUptoCard

/-- THE SECOND FORM's CARD OF 'quietwinglaw3.FlowFrom'. -/
def flowFromUptoCard : Claim7 := { stood := { row := flowFromUptoRow, standIns := [], harness := (true, "27f296d236f7fafe370d146cf9ec9bf89b18b3da39a3f22e8a4fa78575b51aea"), looks := true }, kinds := [], alts := [], laidByText := true, laidKinds := [.data], laidTests := true, laidLooks := .later }
def FlowFromUptoCardSaid : Prop := Claim7.holds Tryd.pinned (.plain (OpenSpec.upto flowFromSpec)) flowFromUptoCard

/-- THE SECOND FORM's CARD OF 'quietwinglaw3.FlowLevels'. -/
def flowLevelsUptoCard : Claim7 := { stood := { row := flowLevelsUptoRow, standIns := [], harness := (true, "27f296d236f7fafe370d146cf9ec9bf89b18b3da39a3f22e8a4fa78575b51aea"), looks := true }, kinds := [], alts := [], laidByText := true, laidKinds := [.data], laidTests := true, laidLooks := .later }
def FlowLevelsUptoCardSaid : Prop := Claim7.holds Tryd.pinned (.plain (OpenSpec.upto flowLevelsSpec)) flowLevelsUptoCard

/-- THE SECOND FORM's CARD OF 'quietwinglaw3.FlowLeast'. -/
def flowLeastUptoCard : Claim7 := { stood := { row := flowLeastUptoRow, standIns := [], harness := (true, "27f296d236f7fafe370d146cf9ec9bf89b18b3da39a3f22e8a4fa78575b51aea"), looks := true }, kinds := [], alts := [], laidByText := true, laidKinds := [.data, .handle], laidTests := true, laidLooks := .later }
def FlowLeastUptoCardSaid : Prop := Claim7.holds Tryd.pinned (.plain (OpenSpec.upto flowLeastSpec)) flowLeastUptoCard
end Rows
end Go.Proofs.YtioimgeeamchaaaDoor
