/-
  DERIVED. GIVEN WITH THE SEED: THE CARDS: each row of YtcddbjmockpoiaaDoorRows.lean that lists a variable, with what it lists TIED to the program's text (the seventh form; the later family's looks); each row that meets fmt, with fmt's text TOLD by the authors' own Lean function (tested against real Go, not proved from fmt's source: count such statements apart). THE CARD IS WHAT COUNTS. Prove the row's statement (the work); the ties are given (YtcddbjmockpoiaaDoorTie.lean); close each card by the builder's one call (the guide's Derived/Test/ToyasCard.lean, 'card_holds'). Laid BY PROGRAM, IN A SANDBOX (cutbox-door.mjs). By AI agents, Wed Nov 11 2026. No macro, syntax, notation, axiom, sorry.
-/
import Derived.Test.YtcddbjmockpoiaaDoorRows
import GoSem.ClaimSeven
namespace Go.Proofs.YtcddbjmockpoiaaDoor
namespace Rows

/-- THE TIED CARD OF 'quietwinglaw2.TakeSays'. -/
def takeSaysCard : Claim7 := { stood := { row := takeSaysRow, standIns := [], harness := (true, "f9dc5543563a4864839d128413c36c0630f749bd6410895f82a0793490e48c1b"), looks := true }, kinds := [], alts := [], laidByText := true, laidKinds := [.handle], laidTests := true, laidLooks := .later }
def TakeSaysCardSaid : Prop := Claim7.holds Tryd.pinned (.plain (OpenSpec.ofChange takeSaysSpec)) takeSaysCard

/-- THE TIED CARD OF 'quietwinglaw2.TakeTells'. -/
def takeTellsCard : Claim7 := { stood := { row := takeTellsRow, standIns := [], harness := (true, "f9dc5543563a4864839d128413c36c0630f749bd6410895f82a0793490e48c1b"), looks := true }, kinds := [], alts := [], laidByText := true, laidKinds := [.data, .handle], laidTests := true, laidLooks := .later }
def TakeTellsCardSaid : Prop := Claim7.holds Tryd.pinned (.plain (OpenSpec.ofChange takeTellsSpec)) takeTellsCard

/-- THE TIED CARD OF 'quietwinglaw2.TakePlan'. -/
def takePlanCard : Claim7 := { stood := { row := takePlanRow, standIns := [], harness := (true, "f9dc5543563a4864839d128413c36c0630f749bd6410895f82a0793490e48c1b"), looks := true }, kinds := [], alts := [], laidByText := true, laidKinds := [.data, .handle], laidTests := true, laidLooks := .later }
def TakePlanCardSaid : Prop := Claim7.holds Tryd.pinned (.plain (OpenSpec.ofChange takePlanSpec)) takePlanCard

/-- THE TIED CARD OF 'quietwinglaw2.TakeSound'. -/
def takeSoundCard : Claim7 := { stood := { row := takeSoundRow, standIns := [], harness := (true, "f9dc5543563a4864839d128413c36c0630f749bd6410895f82a0793490e48c1b"), looks := true }, kinds := [], alts := [], laidByText := true, laidKinds := [.data], laidTests := true, laidLooks := .later }
def TakeSoundCardSaid : Prop := Claim7.holds Tryd.pinned (.plain (OpenSpec.ofChange takeSoundSpec)) takeSoundCard

/-- THE TIED CARD OF 'quietwinglaw2.TakeStays'. -/
def takeStaysCard : Claim7 := { stood := { row := takeStaysRow, standIns := [], harness := (true, "f9dc5543563a4864839d128413c36c0630f749bd6410895f82a0793490e48c1b"), looks := true }, kinds := [], alts := [], laidByText := true, laidKinds := [.data], laidTests := true, laidLooks := .later }
def TakeStaysCardSaid : Prop := Claim7.holds Tryd.pinned (.plain (OpenSpec.ofChange takeStaysSpec)) takeStaysCard

/-- THE SECOND FORM's CARD OF 'quietwinglaw2.TakeSays'. -/
def takeSaysUptoCard : Claim7 := { stood := { row := takeSaysUptoRow, standIns := [], harness := (true, "f9dc5543563a4864839d128413c36c0630f749bd6410895f82a0793490e48c1b"), looks := true }, kinds := [], alts := [], laidByText := true, laidKinds := [.handle], laidTests := true, laidLooks := .later }
def TakeSaysUptoCardSaid : Prop := Claim7.holds Tryd.pinned (.plain (OpenSpec.upto takeSaysSpec)) takeSaysUptoCard

/-- THE SECOND FORM's CARD OF 'quietwinglaw2.TakeTells'. -/
def takeTellsUptoCard : Claim7 := { stood := { row := takeTellsUptoRow, standIns := [], harness := (true, "f9dc5543563a4864839d128413c36c0630f749bd6410895f82a0793490e48c1b"), looks := true }, kinds := [], alts := [], laidByText := true, laidKinds := [.data, .handle], laidTests := true, laidLooks := .later }
def TakeTellsUptoCardSaid : Prop := Claim7.holds Tryd.pinned (.plain (OpenSpec.upto takeTellsSpec)) takeTellsUptoCard

/-- THE SECOND FORM's CARD OF 'quietwinglaw2.TakePlan'. -/
def takePlanUptoCard : Claim7 := { stood := { row := takePlanUptoRow, standIns := [], harness := (true, "f9dc5543563a4864839d128413c36c0630f749bd6410895f82a0793490e48c1b"), looks := true }, kinds := [], alts := [], laidByText := true, laidKinds := [.data, .handle], laidTests := true, laidLooks := .later }
def TakePlanUptoCardSaid : Prop := Claim7.holds Tryd.pinned (.plain (OpenSpec.upto takePlanSpec)) takePlanUptoCard

/-- THE SECOND FORM's CARD OF 'quietwinglaw2.TakeSound'. -/
def takeSoundUptoCard : Claim7 := { stood := { row := takeSoundUptoRow, standIns := [], harness := (true, "f9dc5543563a4864839d128413c36c0630f749bd6410895f82a0793490e48c1b"), looks := true }, kinds := [], alts := [], laidByText := true, laidKinds := [.data], laidTests := true, laidLooks := .later }
def TakeSoundUptoCardSaid : Prop := Claim7.holds Tryd.pinned (.plain (OpenSpec.upto takeSoundSpec)) takeSoundUptoCard

/-- THE SECOND FORM's CARD OF 'quietwinglaw2.TakeStays'. -/
def takeStaysUptoCard : Claim7 := { stood := { row := takeStaysUptoRow, standIns := [], harness := (true, "f9dc5543563a4864839d128413c36c0630f749bd6410895f82a0793490e48c1b"), looks := true }, kinds := [], alts := [], laidByText := true, laidKinds := [.data], laidTests := true, laidLooks := .later }
def TakeStaysUptoCardSaid : Prop := Claim7.holds Tryd.pinned (.plain (OpenSpec.upto takeStaysSpec)) takeStaysUptoCard
end Rows
end Go.Proofs.YtcddbjmockpoiaaDoor
