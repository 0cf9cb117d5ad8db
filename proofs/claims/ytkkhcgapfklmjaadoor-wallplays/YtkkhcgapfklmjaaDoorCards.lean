/-
  DERIVED. GIVEN WITH THE SEED: THE CARDS: each row of YtkkhcgapfklmjaaDoorRows.lean that lists a variable, with what it lists TIED to the program's text (the seventh form; the later family's looks); each row that meets fmt, with fmt's text TOLD by the authors' own Lean function (tested against real Go, not proved from fmt's source: count such statements apart). THE CARD IS WHAT COUNTS. Prove the row's statement (the work); the ties are given (YtkkhcgapfklmjaaDoorTie.lean); close each card by the builder's one call (the guide's Derived/Test/ToyasCard.lean, 'card_holds'). Laid BY PROGRAM, IN A SANDBOX (cutbox-door.mjs). By AI agents, Wed Nov 11 2026. No macro, syntax, notation, axiom, sorry.
-/
import Derived.Test.YtkkhcgapfklmjaaDoorRows
import GoSem.ClaimSeven
namespace Go.Proofs.YtkkhcgapfklmjaaDoor
namespace Rows

/-- THE TIED CARD OF 'quietwinglaw2.WallRivals'. -/
def wallRivalsCard : Claim7 := { stood := { row := wallRivalsRow, standIns := [], harness := (true, "4bd119bad72afc3e2c9c5c68dd2f62a746173d806fd6d2c18cf64d51a14f6cbf"), looks := true }, kinds := [], alts := [], laidByText := true, laidKinds := [.data, .handle], laidTests := true, laidLooks := .later }
def WallRivalsCardSaid : Prop := Claim7.holds Tryd.pinned (.plain (OpenSpec.ofChange wallRivalsSpec)) wallRivalsCard

/-- THE TIED CARD OF 'quietwinglaw2.WallHolds'. -/
def wallHoldsCard : Claim7 := { stood := { row := wallHoldsRow, standIns := [], harness := (true, "4bd119bad72afc3e2c9c5c68dd2f62a746173d806fd6d2c18cf64d51a14f6cbf"), looks := true }, kinds := [], alts := [], laidByText := true, laidKinds := [.data, .handle], laidTests := true, laidLooks := .later }
def WallHoldsCardSaid : Prop := Claim7.holds Tryd.pinned (.plain (OpenSpec.ofChange wallHoldsSpec)) wallHoldsCard

/-- THE TIED CARD OF 'quietwinglaw2.WallMany'. -/
def wallManyCard : Claim7 := { stood := { row := wallManyRow, standIns := [], harness := (true, "4bd119bad72afc3e2c9c5c68dd2f62a746173d806fd6d2c18cf64d51a14f6cbf"), looks := true }, kinds := [], alts := [], laidByText := true, laidKinds := [.data, .handle], laidTests := true, laidLooks := .later }
def WallManyCardSaid : Prop := Claim7.holds Tryd.pinned (.plain (OpenSpec.ofChange wallManySpec)) wallManyCard

/-- THE TIED CARD OF 'quietwinglaw2.WallPlays'. -/
def wallPlaysCard : Claim7 := { stood := { row := wallPlaysRow, standIns := [], harness := (true, "4bd119bad72afc3e2c9c5c68dd2f62a746173d806fd6d2c18cf64d51a14f6cbf"), looks := true }, kinds := [], alts := [], laidByText := true, laidKinds := [.data, .handle], laidTests := true, laidLooks := .later }
def WallPlaysCardSaid : Prop := Claim7.holds Tryd.pinned (.plain (OpenSpec.ofChange wallPlaysSpec)) wallPlaysCard

/-- THE SECOND FORM's CARD OF 'quietwinglaw2.WallRivals'. -/
def wallRivalsUptoCard : Claim7 := { stood := { row := wallRivalsUptoRow, standIns := [], harness := (true, "4bd119bad72afc3e2c9c5c68dd2f62a746173d806fd6d2c18cf64d51a14f6cbf"), looks := true }, kinds := [], alts := [], laidByText := true, laidKinds := [.data, .handle], laidTests := true, laidLooks := .later }
def WallRivalsUptoCardSaid : Prop := Claim7.holds Tryd.pinned (.plain (OpenSpec.upto wallRivalsSpec)) wallRivalsUptoCard

/-- THE SECOND FORM's CARD OF 'quietwinglaw2.WallHolds'. -/
def wallHoldsUptoCard : Claim7 := { stood := { row := wallHoldsUptoRow, standIns := [], harness := (true, "4bd119bad72afc3e2c9c5c68dd2f62a746173d806fd6d2c18cf64d51a14f6cbf"), looks := true }, kinds := [], alts := [], laidByText := true, laidKinds := [.data, .handle], laidTests := true, laidLooks := .later }
def WallHoldsUptoCardSaid : Prop := Claim7.holds Tryd.pinned (.plain (OpenSpec.upto wallHoldsSpec)) wallHoldsUptoCard

/-- THE SECOND FORM's CARD OF 'quietwinglaw2.WallMany'. -/
def wallManyUptoCard : Claim7 := { stood := { row := wallManyUptoRow, standIns := [], harness := (true, "4bd119bad72afc3e2c9c5c68dd2f62a746173d806fd6d2c18cf64d51a14f6cbf"), looks := true }, kinds := [], alts := [], laidByText := true, laidKinds := [.data, .handle], laidTests := true, laidLooks := .later }
def WallManyUptoCardSaid : Prop := Claim7.holds Tryd.pinned (.plain (OpenSpec.upto wallManySpec)) wallManyUptoCard

/-- THE SECOND FORM's CARD OF 'quietwinglaw2.WallPlays'. -/
def wallPlaysUptoCard : Claim7 := { stood := { row := wallPlaysUptoRow, standIns := [], harness := (true, "4bd119bad72afc3e2c9c5c68dd2f62a746173d806fd6d2c18cf64d51a14f6cbf"), looks := true }, kinds := [], alts := [], laidByText := true, laidKinds := [.data, .handle], laidTests := true, laidLooks := .later }
def WallPlaysUptoCardSaid : Prop := Claim7.holds Tryd.pinned (.plain (OpenSpec.upto wallPlaysSpec)) wallPlaysUptoCard
end Rows
end Go.Proofs.YtkkhcgapfklmjaaDoor
