/-
  DERIVED. GIVEN WITH THE SEED: THE CARDS: each row of YtoecomgiggalkaaDoorRows.lean that lists a variable, with what it lists TIED to the program's text (the seventh form; the later family's looks); each row that meets fmt, with fmt's text TOLD by the authors' own Lean function (tested against real Go, not proved from fmt's source: count such statements apart). THE CARD IS WHAT COUNTS. Prove the row's statement (the work); the ties are given (YtoecomgiggalkaaDoorTie.lean); close each card by the builder's one call (the guide's Derived/Test/ToyasCard.lean, 'card_holds'). Laid BY PROGRAM, IN A SANDBOX (cutbox-door.mjs). By AI agents, Wed Nov 11 2026. No macro, syntax, notation, axiom, sorry.
-/
import Derived.Test.YtoecomgiggalkaaDoorRows
import GoSem.ClaimSeven
namespace Go.Proofs.YtoecomgiggalkaaDoor
namespace Rows

/-- THE TIED CARD OF 'quietwinglaw2.GrantSays'. -/
def grantSaysCard : Claim7 := { stood := { row := grantSaysRow, standIns := [], harness := (true, "f6dae26232924c6cef4833543c946f66fb80a25823292edb19a174d73d05507d"), looks := true }, kinds := [], alts := [], laidByText := true, laidKinds := [.handle], laidTests := true, laidLooks := .later }
def GrantSaysCardSaid : Prop := Claim7.holds Tryd.pinned (.plain (OpenSpec.ofChange grantSaysSpec)) grantSaysCard

/-- THE TIED CARD OF 'quietwinglaw2.GrantLeft'. -/
def grantLeftCard : Claim7 := { stood := { row := grantLeftRow, standIns := [], harness := (true, "f6dae26232924c6cef4833543c946f66fb80a25823292edb19a174d73d05507d"), looks := true }, kinds := [], alts := [], laidByText := true, laidKinds := [.handle], laidTests := true, laidLooks := .later }
def GrantLeftCardSaid : Prop := Claim7.holds Tryd.pinned (.plain (OpenSpec.ofChange grantLeftSpec)) grantLeftCard

/-- THE TIED CARD OF 'quietwinglaw2.GrantOrder'. -/
def grantOrderCard : Claim7 := { stood := { row := grantOrderRow, standIns := [], harness := (true, "f6dae26232924c6cef4833543c946f66fb80a25823292edb19a174d73d05507d"), looks := true }, kinds := [], alts := [], laidByText := true, laidKinds := [.handle], laidTests := true, laidLooks := .later }
def GrantOrderCardSaid : Prop := Claim7.holds Tryd.pinned (.plain (OpenSpec.ofChange grantOrderSpec)) grantOrderCard

/-- THE TIED CARD OF 'quietwinglaw2.GrantPath'. -/
def grantPathCard : Claim7 := { stood := { row := grantPathRow, standIns := [], harness := (true, "f6dae26232924c6cef4833543c946f66fb80a25823292edb19a174d73d05507d"), looks := true }, kinds := [], alts := [], laidByText := true, laidKinds := [.handle], laidTests := true, laidLooks := .later }
def GrantPathCardSaid : Prop := Claim7.holds Tryd.pinned (.plain (OpenSpec.ofChange grantPathSpec)) grantPathCard

/-- THE SECOND FORM's CARD OF 'quietwinglaw2.GrantSays'. -/
def grantSaysUptoCard : Claim7 := { stood := { row := grantSaysUptoRow, standIns := [], harness := (true, "f6dae26232924c6cef4833543c946f66fb80a25823292edb19a174d73d05507d"), looks := true }, kinds := [], alts := [], laidByText := true, laidKinds := [.handle], laidTests := true, laidLooks := .later }
def GrantSaysUptoCardSaid : Prop := Claim7.holds Tryd.pinned (.plain (OpenSpec.upto grantSaysSpec)) grantSaysUptoCard

/-- THE SECOND FORM's CARD OF 'quietwinglaw2.GrantLeft'. -/
def grantLeftUptoCard : Claim7 := { stood := { row := grantLeftUptoRow, standIns := [], harness := (true, "f6dae26232924c6cef4833543c946f66fb80a25823292edb19a174d73d05507d"), looks := true }, kinds := [], alts := [], laidByText := true, laidKinds := [.handle], laidTests := true, laidLooks := .later }
def GrantLeftUptoCardSaid : Prop := Claim7.holds Tryd.pinned (.plain (OpenSpec.upto grantLeftSpec)) grantLeftUptoCard

/-- THE SECOND FORM's CARD OF 'quietwinglaw2.GrantOrder'. -/
def grantOrderUptoCard : Claim7 := { stood := { row := grantOrderUptoRow, standIns := [], harness := (true, "f6dae26232924c6cef4833543c946f66fb80a25823292edb19a174d73d05507d"), looks := true }, kinds := [], alts := [], laidByText := true, laidKinds := [.handle], laidTests := true, laidLooks := .later }
def GrantOrderUptoCardSaid : Prop := Claim7.holds Tryd.pinned (.plain (OpenSpec.upto grantOrderSpec)) grantOrderUptoCard

/-- THE SECOND FORM's CARD OF 'quietwinglaw2.GrantPath'. -/
def grantPathUptoCard : Claim7 := { stood := { row := grantPathUptoRow, standIns := [], harness := (true, "f6dae26232924c6cef4833543c946f66fb80a25823292edb19a174d73d05507d"), looks := true }, kinds := [], alts := [], laidByText := true, laidKinds := [.handle], laidTests := true, laidLooks := .later }
def GrantPathUptoCardSaid : Prop := Claim7.holds Tryd.pinned (.plain (OpenSpec.upto grantPathSpec)) grantPathUptoCard
end Rows
end Go.Proofs.YtoecomgiggalkaaDoor
