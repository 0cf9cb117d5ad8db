/-
  DERIVED. GIVEN WITH THE SEED: THE CARDS: each row of YtnagamnlggbjaaaDoorRows.lean that lists a variable, with what it lists TIED to the program's text (the seventh form; the later family's looks); each row that meets fmt, with fmt's text TOLD by the authors' own Lean function (tested against real Go, not proved from fmt's source: count such statements apart). THE CARD IS WHAT COUNTS. Prove the row's statement (the work); the ties are given (YtnagamnlggbjaaaDoorTie.lean); close each card by the builder's one call (the guide's Derived/Test/ToyasCard.lean, 'card_holds'). Laid BY PROGRAM, IN A SANDBOX (cutbox-door.mjs). By AI agents, Wed Nov 11 2026. No macro, syntax, notation, axiom, sorry.
-/
import Derived.Test.YtnagamnlggbjaaaDoorRows
import GoSem.ClaimSeven
namespace Go.Proofs.YtnagamnlggbjaaaDoor
namespace Rows

/-- THE TIED CARD OF 'quietwinglaw3.ProgAgain'. -/
def progAgainCard : Claim7 := { stood := { row := progAgainRow, standIns := [], harness := (true, "1bc014cd2cd26276a725539662186bf2e56ce40d6b502e7ebdaf88880d95312e"), looks := true }, kinds := [], alts := [], laidByText := true, laidKinds := [.data, .data, .data, .data, .sentinel, .sentinel, .pinned], laidTests := true, laidLooks := .later }
def ProgAgainCardSaid : Prop := Claim7.holds Tryd.pinned (.plain (OpenSpec.ofChange progAgainSpec)) progAgainCard

/-- THE SECOND FORM's CARD OF 'quietwinglaw3.ProgAgain'. -/
def progAgainUptoCard : Claim7 := { stood := { row := progAgainUptoRow, standIns := [], harness := (true, "1bc014cd2cd26276a725539662186bf2e56ce40d6b502e7ebdaf88880d95312e"), looks := true }, kinds := [], alts := [], laidByText := true, laidKinds := [.data, .data, .data, .data, .sentinel, .sentinel, .pinned], laidTests := true, laidLooks := .later }
def ProgAgainUptoCardSaid : Prop := Claim7.holds Tryd.pinned (.plain (OpenSpec.upto progAgainSpec)) progAgainUptoCard
end Rows
end Go.Proofs.YtnagamnlggbjaaaDoor
