/-
  DERIVED. GIVEN WITH THE SEED: THE CARDS: each row of YtolpkjemgdapgaaDoorRows.lean that lists a variable, with what it lists TIED to the program's text (the seventh form; the later family's looks); each row that meets fmt, with fmt's text TOLD by the authors' own Lean function (tested against real Go, not proved from fmt's source: count such statements apart). THE CARD IS WHAT COUNTS. Prove the row's statement (the work); the ties are given (YtolpkjemgdapgaaDoorTie.lean); close each card by the builder's one call (the guide's Derived/Test/ToyasCard.lean, 'card_holds'). Laid BY PROGRAM, IN A SANDBOX (cutbox-door.mjs). By AI agents, Wed Nov 11 2026. No macro, syntax, notation, axiom, sorry.
-/
import Derived.Test.YtolpkjemgdapgaaDoorRows
import GoSem.ClaimSeven
namespace Go.Proofs.YtolpkjemgdapgaaDoor
namespace Rows

/-- THE TIED CARD OF 'quietwinglaw2.RolesFew'. -/
def rolesFewCard : Claim7 := { stood := { row := rolesFewRow, standIns := [], harness := (true, "76b24ac1e52360445505f10c160ec97ab0083149d8cab3b75927491f01d881ad"), looks := false }, kinds := [], alts := [], laidByText := true, laidKinds := [.data], laidTests := true, laidLooks := .later }
def RolesFewCardSaid : Prop := Claim7.holds Tryd.pinned (.plain (OpenSpec.ofChange rolesFewSpec)) rolesFewCard

/-- THE SECOND FORM's CARD OF 'quietwinglaw2.RolesFew'. -/
def rolesFewUptoCard : Claim7 := { stood := { row := rolesFewUptoRow, standIns := [], harness := (true, "76b24ac1e52360445505f10c160ec97ab0083149d8cab3b75927491f01d881ad"), looks := false }, kinds := [], alts := [], laidByText := true, laidKinds := [.data], laidTests := true, laidLooks := .later }
def RolesFewUptoCardSaid : Prop := Claim7.holds Tryd.pinned (.plain (OpenSpec.upto rolesFewSpec)) rolesFewUptoCard
end Rows
end Go.Proofs.YtolpkjemgdapgaaDoor
