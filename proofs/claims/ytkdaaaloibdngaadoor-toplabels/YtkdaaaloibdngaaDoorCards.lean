/-
  DERIVED. GIVEN WITH THE SEED: THE CARDS: each row of YtkdaaaloibdngaaDoorRows.lean that lists a variable, with what it lists TIED to the program's text (the seventh form; the later family's looks); each row that meets fmt, with fmt's text TOLD by the authors' own Lean function (tested against real Go, not proved from fmt's source: count such statements apart). THE CARD IS WHAT COUNTS. Prove the row's statement (the work); the ties are given (YtkdaaaloibdngaaDoorTie.lean); close each card by the builder's one call (the guide's Derived/Test/ToyasCard.lean, 'card_holds'). Laid BY PROGRAM, IN A SANDBOX (cutbox-door.mjs). By AI agents, Wed Nov 11 2026. No macro, syntax, notation, axiom, sorry.
-/
import Derived.Test.YtkdaaaloibdngaaDoorRows
import GoSem.ClaimSeven
namespace Go.Proofs.YtkdaaaloibdngaaDoor
namespace Rows

/-- THE TIED CARD OF 'quietwinglaw1.LabelSays'. -/
def labelSaysCard : Claim7 := { stood := { row := labelSaysRow, standIns := [], harness := (true, "62f870f4cf8e8c1ccd1f38a4464832e3964f0f8950ef42dd47e83c4f6052a70a"), looks := true }, kinds := [], alts := [], laidByText := true, laidKinds := [.data, .handle], laidTests := true, laidLooks := .later }
def LabelSaysCardSaid : Prop := Claim7.holds Tryd.pinned (.plain (OpenSpec.ofChange labelSaysSpec)) labelSaysCard

/-- THE TIED CARD OF 'quietwinglaw1.LabelBounds'. -/
def labelBoundsCard : Claim7 := { stood := { row := labelBoundsRow, standIns := [], harness := (true, "62f870f4cf8e8c1ccd1f38a4464832e3964f0f8950ef42dd47e83c4f6052a70a"), looks := true }, kinds := [], alts := [], laidByText := true, laidKinds := [.data], laidTests := true, laidLooks := .later }
def LabelBoundsCardSaid : Prop := Claim7.holds Tryd.pinned (.plain (OpenSpec.ofChange labelBoundsSpec)) labelBoundsCard

/-- THE TIED CARD OF 'quietwinglaw1.LabelOrder'. -/
def labelOrderCard : Claim7 := { stood := { row := labelOrderRow, standIns := [], harness := (true, "62f870f4cf8e8c1ccd1f38a4464832e3964f0f8950ef42dd47e83c4f6052a70a"), looks := true }, kinds := [], alts := [], laidByText := true, laidKinds := [.data], laidTests := true, laidLooks := .later }
def LabelOrderCardSaid : Prop := Claim7.holds Tryd.pinned (.plain (OpenSpec.ofChange labelOrderSpec)) labelOrderCard

/-- THE TIED CARD OF 'quietwinglaw1.LabelBack'. -/
def labelBackCard : Claim7 := { stood := { row := labelBackRow, standIns := [], harness := (true, "62f870f4cf8e8c1ccd1f38a4464832e3964f0f8950ef42dd47e83c4f6052a70a"), looks := true }, kinds := [], alts := [], laidByText := true, laidKinds := [.data, .handle], laidTests := true, laidLooks := .later }
def LabelBackCardSaid : Prop := Claim7.holds Tryd.pinned (.plain (OpenSpec.ofChange labelBackSpec)) labelBackCard

/-- THE TIED CARD OF 'quietwingtop.TopLabels'. -/
def topLabelsCard : Claim7 := { stood := { row := topLabelsRow, standIns := [], harness := (true, "62f870f4cf8e8c1ccd1f38a4464832e3964f0f8950ef42dd47e83c4f6052a70a"), looks := true }, kinds := [], alts := [], laidByText := true, laidKinds := [.data], laidTests := true, laidLooks := .later }
def TopLabelsCardSaid : Prop := Claim7.holds Tryd.pinned (.plain (OpenSpec.ofChange topLabelsSpec)) topLabelsCard

/-- THE SECOND FORM's CARD OF 'quietwinglaw1.LabelSays'. -/
def labelSaysUptoCard : Claim7 := { stood := { row := labelSaysUptoRow, standIns := [], harness := (true, "62f870f4cf8e8c1ccd1f38a4464832e3964f0f8950ef42dd47e83c4f6052a70a"), looks := true }, kinds := [], alts := [], laidByText := true, laidKinds := [.data, .handle], laidTests := true, laidLooks := .later }
def LabelSaysUptoCardSaid : Prop := Claim7.holds Tryd.pinned (.plain (OpenSpec.upto labelSaysSpec)) labelSaysUptoCard

/-- THE SECOND FORM's CARD OF 'quietwinglaw1.LabelBounds'. -/
def labelBoundsUptoCard : Claim7 := { stood := { row := labelBoundsUptoRow, standIns := [], harness := (true, "62f870f4cf8e8c1ccd1f38a4464832e3964f0f8950ef42dd47e83c4f6052a70a"), looks := true }, kinds := [], alts := [], laidByText := true, laidKinds := [.data], laidTests := true, laidLooks := .later }
def LabelBoundsUptoCardSaid : Prop := Claim7.holds Tryd.pinned (.plain (OpenSpec.upto labelBoundsSpec)) labelBoundsUptoCard

/-- THE SECOND FORM's CARD OF 'quietwinglaw1.LabelOrder'. -/
def labelOrderUptoCard : Claim7 := { stood := { row := labelOrderUptoRow, standIns := [], harness := (true, "62f870f4cf8e8c1ccd1f38a4464832e3964f0f8950ef42dd47e83c4f6052a70a"), looks := true }, kinds := [], alts := [], laidByText := true, laidKinds := [.data], laidTests := true, laidLooks := .later }
def LabelOrderUptoCardSaid : Prop := Claim7.holds Tryd.pinned (.plain (OpenSpec.upto labelOrderSpec)) labelOrderUptoCard

/-- THE SECOND FORM's CARD OF 'quietwinglaw1.LabelBack'. -/
def labelBackUptoCard : Claim7 := { stood := { row := labelBackUptoRow, standIns := [], harness := (true, "62f870f4cf8e8c1ccd1f38a4464832e3964f0f8950ef42dd47e83c4f6052a70a"), looks := true }, kinds := [], alts := [], laidByText := true, laidKinds := [.data, .handle], laidTests := true, laidLooks := .later }
def LabelBackUptoCardSaid : Prop := Claim7.holds Tryd.pinned (.plain (OpenSpec.upto labelBackSpec)) labelBackUptoCard

/-- THE SECOND FORM's CARD OF 'quietwingtop.TopLabels'. -/
def topLabelsUptoCard : Claim7 := { stood := { row := topLabelsUptoRow, standIns := [], harness := (true, "62f870f4cf8e8c1ccd1f38a4464832e3964f0f8950ef42dd47e83c4f6052a70a"), looks := true }, kinds := [], alts := [], laidByText := true, laidKinds := [.data], laidTests := true, laidLooks := .later }
def TopLabelsUptoCardSaid : Prop := Claim7.holds Tryd.pinned (.plain (OpenSpec.upto topLabelsSpec)) topLabelsUptoCard
end Rows
end Go.Proofs.YtkdaaaloibdngaaDoor
