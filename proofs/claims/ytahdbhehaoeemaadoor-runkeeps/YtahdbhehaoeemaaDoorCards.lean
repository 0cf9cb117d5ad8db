/-
  DERIVED. GIVEN WITH THE SEED: THE CARDS: each row of YtahdbhehaoeemaaDoorRows.lean that lists a variable, with what it lists TIED to the program's text (the seventh form; the later family's looks); each row that meets fmt, with fmt's text TOLD by the authors' own Lean function (tested against real Go, not proved from fmt's source: count such statements apart). THE CARD IS WHAT COUNTS. Prove the row's statement (the work); the ties are given (YtahdbhehaoeemaaDoorTie.lean); close each card by the builder's one call (the guide's Derived/Test/ToyasCard.lean, 'card_holds'). Laid BY PROGRAM, IN A SANDBOX (cutbox-door.mjs). By AI agents, Wed Nov 11 2026. No macro, syntax, notation, axiom, sorry.
-/
import Derived.Test.YtahdbhehaoeemaaDoorRows
import GoSem.ClaimSeven
namespace Go.Proofs.YtahdbhehaoeemaaDoor
namespace Rows

/-- THE TIED CARD OF 'quietwinglaw3.RunSays'. -/
def runSaysCard : Claim7 := { stood := { row := runSaysRow, standIns := [], harness := (true, "e07408c0a5c10524d87fb1e5eebaa377b3944fc745e44336ea6c4f65b9072432"), looks := true }, kinds := [], alts := [], laidByText := true, laidKinds := [.handle], laidTests := true, laidLooks := .later }
def RunSaysCardSaid : Prop := Claim7.holds Tryd.pinned (.plain (OpenSpec.ofChange runSaysSpec)) runSaysCard

/-- THE TIED CARD OF 'quietwinglaw3.RunKeeps'. -/
def runKeepsCard : Claim7 := { stood := { row := runKeepsRow, standIns := [], harness := (true, "e07408c0a5c10524d87fb1e5eebaa377b3944fc745e44336ea6c4f65b9072432"), looks := true }, kinds := [], alts := [], laidByText := true, laidKinds := [.data, .data, .data, .data, .sentinel, .sentinel, .pinned], laidTests := true, laidLooks := .later }
def RunKeepsCardSaid : Prop := Claim7.holds Tryd.pinned (.plain (OpenSpec.ofChange runKeepsSpec)) runKeepsCard

/-- THE SECOND FORM's CARD OF 'quietwinglaw3.RunSays'. -/
def runSaysUptoCard : Claim7 := { stood := { row := runSaysUptoRow, standIns := [], harness := (true, "e07408c0a5c10524d87fb1e5eebaa377b3944fc745e44336ea6c4f65b9072432"), looks := true }, kinds := [], alts := [], laidByText := true, laidKinds := [.handle], laidTests := true, laidLooks := .later }
def RunSaysUptoCardSaid : Prop := Claim7.holds Tryd.pinned (.plain (OpenSpec.upto runSaysSpec)) runSaysUptoCard

/-- THE SECOND FORM's CARD OF 'quietwinglaw3.RunKeeps'. -/
def runKeepsUptoCard : Claim7 := { stood := { row := runKeepsUptoRow, standIns := [], harness := (true, "e07408c0a5c10524d87fb1e5eebaa377b3944fc745e44336ea6c4f65b9072432"), looks := true }, kinds := [], alts := [], laidByText := true, laidKinds := [.data, .data, .data, .data, .sentinel, .sentinel, .pinned], laidTests := true, laidLooks := .later }
def RunKeepsUptoCardSaid : Prop := Claim7.holds Tryd.pinned (.plain (OpenSpec.upto runKeepsSpec)) runKeepsUptoCard
end Rows
end Go.Proofs.YtahdbhehaoeemaaDoor
