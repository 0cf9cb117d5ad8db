/-
  DERIVED. GIVEN WITH THE SEED: THE CARDS: each row of YteheaeihoameeaaDoorRows.lean that lists a variable, with what it lists TIED to the program's text (the seventh form; the later family's looks); each row that meets fmt, with fmt's text TOLD by the authors' own Lean function (tested against real Go, not proved from fmt's source: count such statements apart). THE CARD IS WHAT COUNTS. Prove the row's statement (the work); the ties are given (YteheaeihoameeaaDoorTie.lean); close each card by the builder's one call (the guide's Derived/Test/ToyasCard.lean, 'card_holds'). Laid BY PROGRAM, IN A SANDBOX (cutbox-door.mjs). By AI agents, Wed Nov 11 2026. No macro, syntax, notation, axiom, sorry.
-/
import Derived.Test.YteheaeihoameeaaDoorRows
import GoSem.ClaimSeven
namespace Go.Proofs.YteheaeihoameeaaDoor
namespace Rows

/-- THE TIED CARD OF 'quietwinglaw2.BellPlays'. -/
def bellPlaysCard : Claim7 := { stood := { row := bellPlaysRow, standIns := [], harness := (true, "4bb2a33c052af15b0ab7e4585f12251d73d1c7fd5dceb727f4dcac93563a4c68"), looks := true }, kinds := [], alts := [], laidByText := true, laidKinds := [.data, .handle], laidTests := true, laidLooks := .later }
def BellPlaysCardSaid : Prop := Claim7.holds Tryd.pinned (.plain (OpenSpec.ofChange bellPlaysSpec)) bellPlaysCard

/-- THE TIED CARD OF 'quietwinglaw2.BibaPure'. -/
def bibaPureCard : Claim7 := { stood := { row := bibaPureRow, standIns := [], harness := (true, "4bb2a33c052af15b0ab7e4585f12251d73d1c7fd5dceb727f4dcac93563a4c68"), looks := true }, kinds := [], alts := [], laidByText := true, laidKinds := [.handle], laidTests := true, laidLooks := .later }
def BibaPureCardSaid : Prop := Claim7.holds Tryd.pinned (.plain (OpenSpec.ofChange bibaPureSpec)) bibaPureCard

/-- THE TIED CARD OF 'quietwinglaw2.BibaSinks'. -/
def bibaSinksCard : Claim7 := { stood := { row := bibaSinksRow, standIns := [], harness := (true, "4bb2a33c052af15b0ab7e4585f12251d73d1c7fd5dceb727f4dcac93563a4c68"), looks := true }, kinds := [], alts := [], laidByText := true, laidKinds := [.handle], laidTests := true, laidLooks := .later }
def BibaSinksCardSaid : Prop := Claim7.holds Tryd.pinned (.plain (OpenSpec.ofChange bibaSinksSpec)) bibaSinksCard

/-- THE TIED CARD OF 'quietwinglaw2.BibaPlays'. -/
def bibaPlaysCard : Claim7 := { stood := { row := bibaPlaysRow, standIns := [], harness := (true, "4bb2a33c052af15b0ab7e4585f12251d73d1c7fd5dceb727f4dcac93563a4c68"), looks := true }, kinds := [], alts := [], laidByText := true, laidKinds := [.handle], laidTests := true, laidLooks := .later }
def BibaPlaysCardSaid : Prop := Claim7.holds Tryd.pinned (.plain (OpenSpec.ofChange bibaPlaysSpec)) bibaPlaysCard

/-- THE SECOND FORM's CARD OF 'quietwinglaw2.BellPlays'. -/
def bellPlaysUptoCard : Claim7 := { stood := { row := bellPlaysUptoRow, standIns := [], harness := (true, "4bb2a33c052af15b0ab7e4585f12251d73d1c7fd5dceb727f4dcac93563a4c68"), looks := true }, kinds := [], alts := [], laidByText := true, laidKinds := [.data, .handle], laidTests := true, laidLooks := .later }
def BellPlaysUptoCardSaid : Prop := Claim7.holds Tryd.pinned (.plain (OpenSpec.upto bellPlaysSpec)) bellPlaysUptoCard

/-- THE SECOND FORM's CARD OF 'quietwinglaw2.BibaPure'. -/
def bibaPureUptoCard : Claim7 := { stood := { row := bibaPureUptoRow, standIns := [], harness := (true, "4bb2a33c052af15b0ab7e4585f12251d73d1c7fd5dceb727f4dcac93563a4c68"), looks := true }, kinds := [], alts := [], laidByText := true, laidKinds := [.handle], laidTests := true, laidLooks := .later }
def BibaPureUptoCardSaid : Prop := Claim7.holds Tryd.pinned (.plain (OpenSpec.upto bibaPureSpec)) bibaPureUptoCard

/-- THE SECOND FORM's CARD OF 'quietwinglaw2.BibaSinks'. -/
def bibaSinksUptoCard : Claim7 := { stood := { row := bibaSinksUptoRow, standIns := [], harness := (true, "4bb2a33c052af15b0ab7e4585f12251d73d1c7fd5dceb727f4dcac93563a4c68"), looks := true }, kinds := [], alts := [], laidByText := true, laidKinds := [.handle], laidTests := true, laidLooks := .later }
def BibaSinksUptoCardSaid : Prop := Claim7.holds Tryd.pinned (.plain (OpenSpec.upto bibaSinksSpec)) bibaSinksUptoCard

/-- THE SECOND FORM's CARD OF 'quietwinglaw2.BibaPlays'. -/
def bibaPlaysUptoCard : Claim7 := { stood := { row := bibaPlaysUptoRow, standIns := [], harness := (true, "4bb2a33c052af15b0ab7e4585f12251d73d1c7fd5dceb727f4dcac93563a4c68"), looks := true }, kinds := [], alts := [], laidByText := true, laidKinds := [.handle], laidTests := true, laidLooks := .later }
def BibaPlaysUptoCardSaid : Prop := Claim7.holds Tryd.pinned (.plain (OpenSpec.upto bibaPlaysSpec)) bibaPlaysUptoCard
end Rows
end Go.Proofs.YteheaeihoameeaaDoor
