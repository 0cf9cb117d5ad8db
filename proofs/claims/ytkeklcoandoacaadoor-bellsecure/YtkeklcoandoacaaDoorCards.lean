/-
  DERIVED. GIVEN WITH THE SEED: THE CARDS: each row of YtkeklcoandoacaaDoorRows.lean that lists a variable, with what it lists TIED to the program's text (the seventh form; the later family's looks); each row that meets fmt, with fmt's text TOLD by the authors' own Lean function (tested against real Go, not proved from fmt's source: count such statements apart). THE CARD IS WHAT COUNTS. Prove the row's statement (the work); the ties are given (YtkeklcoandoacaaDoorTie.lean); close each card by the builder's one call (the guide's Derived/Test/ToyasCard.lean, 'card_holds'). Laid BY PROGRAM, IN A SANDBOX (cutbox-door.mjs). By AI agents, Wed Nov 11 2026. No macro, syntax, notation, axiom, sorry.
-/
import Derived.Test.YtkeklcoandoacaaDoorRows
import GoSem.ClaimSeven
namespace Go.Proofs.YtkeklcoandoacaaDoor
namespace Rows

/-- THE TIED CARD OF 'quietwinglaw2.BellFlows'. -/
def bellFlowsCard : Claim7 := { stood := { row := bellFlowsRow, standIns := [], harness := (true, "527a75f46e8f96622b29f67fa41448172f2443e870a108c17659a78f1eeed3de"), looks := true }, kinds := [], alts := [], laidByText := true, laidKinds := [.data, .handle], laidTests := true, laidLooks := .later }
def BellFlowsCardSaid : Prop := Claim7.holds Tryd.pinned (.plain (OpenSpec.ofChange bellFlowsSpec)) bellFlowsCard

/-- THE TIED CARD OF 'quietwinglaw2.BellSecure'. -/
def bellSecureCard : Claim7 := { stood := { row := bellSecureRow, standIns := [], harness := (true, "527a75f46e8f96622b29f67fa41448172f2443e870a108c17659a78f1eeed3de"), looks := true }, kinds := [], alts := [], laidByText := true, laidKinds := [.data, .handle], laidTests := true, laidLooks := .later }
def BellSecureCardSaid : Prop := Claim7.holds Tryd.pinned (.plain (OpenSpec.ofChange bellSecureSpec)) bellSecureCard

/-- THE TIED CARD OF 'quietwinglaw2.BellDrop'. -/
def bellDropCard : Claim7 := { stood := { row := bellDropRow, standIns := [], harness := (true, "527a75f46e8f96622b29f67fa41448172f2443e870a108c17659a78f1eeed3de"), looks := true }, kinds := [], alts := [], laidByText := true, laidKinds := [.data, .handle], laidTests := true, laidLooks := .later }
def BellDropCardSaid : Prop := Claim7.holds Tryd.pinned (.plain (OpenSpec.ofChange bellDropSpec)) bellDropCard

/-- THE TIED CARD OF 'quietwinglaw2.BellPlays'. -/
def bellPlaysCard : Claim7 := { stood := { row := bellPlaysRow, standIns := [], harness := (true, "527a75f46e8f96622b29f67fa41448172f2443e870a108c17659a78f1eeed3de"), looks := true }, kinds := [], alts := [], laidByText := true, laidKinds := [.data, .handle], laidTests := true, laidLooks := .later }
def BellPlaysCardSaid : Prop := Claim7.holds Tryd.pinned (.plain (OpenSpec.ofChange bellPlaysSpec)) bellPlaysCard

/-- THE SECOND FORM's CARD OF 'quietwinglaw2.BellFlows'. -/
def bellFlowsUptoCard : Claim7 := { stood := { row := bellFlowsUptoRow, standIns := [], harness := (true, "527a75f46e8f96622b29f67fa41448172f2443e870a108c17659a78f1eeed3de"), looks := true }, kinds := [], alts := [], laidByText := true, laidKinds := [.data, .handle], laidTests := true, laidLooks := .later }
def BellFlowsUptoCardSaid : Prop := Claim7.holds Tryd.pinned (.plain (OpenSpec.upto bellFlowsSpec)) bellFlowsUptoCard

/-- THE SECOND FORM's CARD OF 'quietwinglaw2.BellSecure'. -/
def bellSecureUptoCard : Claim7 := { stood := { row := bellSecureUptoRow, standIns := [], harness := (true, "527a75f46e8f96622b29f67fa41448172f2443e870a108c17659a78f1eeed3de"), looks := true }, kinds := [], alts := [], laidByText := true, laidKinds := [.data, .handle], laidTests := true, laidLooks := .later }
def BellSecureUptoCardSaid : Prop := Claim7.holds Tryd.pinned (.plain (OpenSpec.upto bellSecureSpec)) bellSecureUptoCard

/-- THE SECOND FORM's CARD OF 'quietwinglaw2.BellDrop'. -/
def bellDropUptoCard : Claim7 := { stood := { row := bellDropUptoRow, standIns := [], harness := (true, "527a75f46e8f96622b29f67fa41448172f2443e870a108c17659a78f1eeed3de"), looks := true }, kinds := [], alts := [], laidByText := true, laidKinds := [.data, .handle], laidTests := true, laidLooks := .later }
def BellDropUptoCardSaid : Prop := Claim7.holds Tryd.pinned (.plain (OpenSpec.upto bellDropSpec)) bellDropUptoCard

/-- THE SECOND FORM's CARD OF 'quietwinglaw2.BellPlays'. -/
def bellPlaysUptoCard : Claim7 := { stood := { row := bellPlaysUptoRow, standIns := [], harness := (true, "527a75f46e8f96622b29f67fa41448172f2443e870a108c17659a78f1eeed3de"), looks := true }, kinds := [], alts := [], laidByText := true, laidKinds := [.data, .handle], laidTests := true, laidLooks := .later }
def BellPlaysUptoCardSaid : Prop := Claim7.holds Tryd.pinned (.plain (OpenSpec.upto bellPlaysSpec)) bellPlaysUptoCard
end Rows
end Go.Proofs.YtkeklcoandoacaaDoor
