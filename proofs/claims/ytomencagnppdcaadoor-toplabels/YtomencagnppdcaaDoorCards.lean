/-
  DERIVED. GIVEN WITH THE SEED: THE CARDS: each row of YtomencagnppdcaaDoorRows.lean that lists a variable, with what it lists TIED to the program's text (the seventh form; the later family's looks); each row that meets fmt, with fmt's text TOLD by the authors' own Lean function (tested against real Go, not proved from fmt's source: count such statements apart). THE CARD IS WHAT COUNTS. Prove the row's statement (the work); the ties are given (YtomencagnppdcaaDoorTie.lean); close each card by the builder's one call (the guide's Derived/Test/ToyasCard.lean, 'card_holds'). Laid BY PROGRAM, IN A SANDBOX (cutbox-door.mjs). By AI agents, Wed Nov 11 2026. No macro, syntax, notation, axiom, sorry.
-/
import Derived.Test.YtomencagnppdcaaDoorRows
import GoSem.ClaimSeven
namespace Go.Proofs.YtomencagnppdcaaDoor
namespace Rows

/-- THE TIED CARD OF 'quietwinglaw1.LatticeSays'. -/
def latticeSaysCard : Claim7 := { stood := { row := latticeSaysRow, standIns := [], harness := (true, "ee11cbdef5c94c0386ed141e480847e83e48ffa23090cd5c3b0b468fc385055e"), looks := true }, kinds := [], alts := [], laidByText := true, laidKinds := [.data, .handle], laidTests := true, laidLooks := .later }
def LatticeSaysCardSaid : Prop := Claim7.holds Tryd.pinned (.plain (OpenSpec.ofChange latticeSaysSpec)) latticeSaysCard

/-- THE TIED CARD OF 'quietwinglaw1.LatticeBounds'. -/
def latticeBoundsCard : Claim7 := { stood := { row := latticeBoundsRow, standIns := [], harness := (true, "ee11cbdef5c94c0386ed141e480847e83e48ffa23090cd5c3b0b468fc385055e"), looks := true }, kinds := [], alts := [], laidByText := true, laidKinds := [.data], laidTests := true, laidLooks := .later }
def LatticeBoundsCardSaid : Prop := Claim7.holds Tryd.pinned (.plain (OpenSpec.ofChange latticeBoundsSpec)) latticeBoundsCard

/-- THE TIED CARD OF 'quietwinglaw1.LatticeRules'. -/
def latticeRulesCard : Claim7 := { stood := { row := latticeRulesRow, standIns := [], harness := (true, "ee11cbdef5c94c0386ed141e480847e83e48ffa23090cd5c3b0b468fc385055e"), looks := true }, kinds := [], alts := [], laidByText := true, laidKinds := [.data], laidTests := true, laidLooks := .later }
def LatticeRulesCardSaid : Prop := Claim7.holds Tryd.pinned (.plain (OpenSpec.ofChange latticeRulesSpec)) latticeRulesCard

/-- THE TIED CARD OF 'quietwinglaw1.LatticeOrder'. -/
def latticeOrderCard : Claim7 := { stood := { row := latticeOrderRow, standIns := [], harness := (true, "ee11cbdef5c94c0386ed141e480847e83e48ffa23090cd5c3b0b468fc385055e"), looks := true }, kinds := [], alts := [], laidByText := true, laidKinds := [.data], laidTests := true, laidLooks := .later }
def LatticeOrderCardSaid : Prop := Claim7.holds Tryd.pinned (.plain (OpenSpec.ofChange latticeOrderSpec)) latticeOrderCard

/-- THE TIED CARD OF 'quietwingtop.TopLabels'. -/
def topLabelsCard : Claim7 := { stood := { row := topLabelsRow, standIns := [], harness := (true, "ee11cbdef5c94c0386ed141e480847e83e48ffa23090cd5c3b0b468fc385055e"), looks := true }, kinds := [], alts := [], laidByText := true, laidKinds := [.data], laidTests := true, laidLooks := .later }
def TopLabelsCardSaid : Prop := Claim7.holds Tryd.pinned (.plain (OpenSpec.ofChange topLabelsSpec)) topLabelsCard

/-- THE SECOND FORM's CARD OF 'quietwinglaw1.LatticeSays'. -/
def latticeSaysUptoCard : Claim7 := { stood := { row := latticeSaysUptoRow, standIns := [], harness := (true, "ee11cbdef5c94c0386ed141e480847e83e48ffa23090cd5c3b0b468fc385055e"), looks := true }, kinds := [], alts := [], laidByText := true, laidKinds := [.data, .handle], laidTests := true, laidLooks := .later }
def LatticeSaysUptoCardSaid : Prop := Claim7.holds Tryd.pinned (.plain (OpenSpec.upto latticeSaysSpec)) latticeSaysUptoCard

/-- THE SECOND FORM's CARD OF 'quietwinglaw1.LatticeBounds'. -/
def latticeBoundsUptoCard : Claim7 := { stood := { row := latticeBoundsUptoRow, standIns := [], harness := (true, "ee11cbdef5c94c0386ed141e480847e83e48ffa23090cd5c3b0b468fc385055e"), looks := true }, kinds := [], alts := [], laidByText := true, laidKinds := [.data], laidTests := true, laidLooks := .later }
def LatticeBoundsUptoCardSaid : Prop := Claim7.holds Tryd.pinned (.plain (OpenSpec.upto latticeBoundsSpec)) latticeBoundsUptoCard

/-- THE SECOND FORM's CARD OF 'quietwinglaw1.LatticeRules'. -/
def latticeRulesUptoCard : Claim7 := { stood := { row := latticeRulesUptoRow, standIns := [], harness := (true, "ee11cbdef5c94c0386ed141e480847e83e48ffa23090cd5c3b0b468fc385055e"), looks := true }, kinds := [], alts := [], laidByText := true, laidKinds := [.data], laidTests := true, laidLooks := .later }
def LatticeRulesUptoCardSaid : Prop := Claim7.holds Tryd.pinned (.plain (OpenSpec.upto latticeRulesSpec)) latticeRulesUptoCard

/-- THE SECOND FORM's CARD OF 'quietwinglaw1.LatticeOrder'. -/
def latticeOrderUptoCard : Claim7 := { stood := { row := latticeOrderUptoRow, standIns := [], harness := (true, "ee11cbdef5c94c0386ed141e480847e83e48ffa23090cd5c3b0b468fc385055e"), looks := true }, kinds := [], alts := [], laidByText := true, laidKinds := [.data], laidTests := true, laidLooks := .later }
def LatticeOrderUptoCardSaid : Prop := Claim7.holds Tryd.pinned (.plain (OpenSpec.upto latticeOrderSpec)) latticeOrderUptoCard

/-- THE SECOND FORM's CARD OF 'quietwingtop.TopLabels'. -/
def topLabelsUptoCard : Claim7 := { stood := { row := topLabelsUptoRow, standIns := [], harness := (true, "ee11cbdef5c94c0386ed141e480847e83e48ffa23090cd5c3b0b468fc385055e"), looks := true }, kinds := [], alts := [], laidByText := true, laidKinds := [.data], laidTests := true, laidLooks := .later }
def TopLabelsUptoCardSaid : Prop := Claim7.holds Tryd.pinned (.plain (OpenSpec.upto topLabelsSpec)) topLabelsUptoCard
end Rows
end Go.Proofs.YtomencagnppdcaaDoor
