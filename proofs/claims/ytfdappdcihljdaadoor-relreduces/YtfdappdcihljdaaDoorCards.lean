/-
  DERIVED. GIVEN WITH THE SEED: THE CARDS: each row of YtfdappdcihljdaaDoorRows.lean that lists a variable, with what it lists TIED to the program's text (the seventh form; the later family's looks); each row that meets fmt, with fmt's text TOLD by the authors' own Lean function (tested against real Go, not proved from fmt's source: count such statements apart). THE CARD IS WHAT COUNTS. Prove the row's statement (the work); the ties are given (YtfdappdcihljdaaDoorTie.lean); close each card by the builder's one call (the guide's Derived/Test/ToyasCard.lean, 'card_holds'). Laid BY PROGRAM, IN A SANDBOX (cutbox-door.mjs). By AI agents, Wed Nov 11 2026. No macro, syntax, notation, axiom, sorry.
-/
import Derived.Test.YtfdappdcihljdaaDoorRows
import GoSem.ClaimSeven
namespace Go.Proofs.YtfdappdcihljdaaDoor
namespace Rows

/-- THE TIED CARD OF 'quietwinglaw1.RelSays'. -/
def relSaysCard : Claim7 := { stood := { row := relSaysRow, standIns := [], harness := (true, "248b3ba483042b3cb0718cbce77f8c9b34db0c0a0b9ef3e647512dc38d28fa90"), looks := true }, kinds := [], alts := [], laidByText := true, laidKinds := [.data, .handle], laidTests := true, laidLooks := .later }
def RelSaysCardSaid : Prop := Claim7.holds Tryd.pinned (.plain (OpenSpec.ofChange relSaysSpec)) relSaysCard

/-- THE TIED CARD OF 'quietwinglaw1.RelCloses'. -/
def relClosesCard : Claim7 := { stood := { row := relClosesRow, standIns := [], harness := (true, "248b3ba483042b3cb0718cbce77f8c9b34db0c0a0b9ef3e647512dc38d28fa90"), looks := true }, kinds := [], alts := [], laidByText := true, laidKinds := [.data], laidTests := true, laidLooks := .later }
def RelClosesCardSaid : Prop := Claim7.holds Tryd.pinned (.plain (OpenSpec.ofChange relClosesSpec)) relClosesCard

/-- THE TIED CARD OF 'quietwinglaw1.RelReduces'. -/
def relReducesCard : Claim7 := { stood := { row := relReducesRow, standIns := [], harness := (true, "248b3ba483042b3cb0718cbce77f8c9b34db0c0a0b9ef3e647512dc38d28fa90"), looks := true }, kinds := [], alts := [], laidByText := true, laidKinds := [.data], laidTests := true, laidLooks := .later }
def RelReducesCardSaid : Prop := Claim7.holds Tryd.pinned (.plain (OpenSpec.ofChange relReducesSpec)) relReducesCard

/-- THE TIED CARD OF 'quietwinglaw1.RelWay'. -/
def relWayCard : Claim7 := { stood := { row := relWayRow, standIns := [], harness := (true, "248b3ba483042b3cb0718cbce77f8c9b34db0c0a0b9ef3e647512dc38d28fa90"), looks := true }, kinds := [], alts := [], laidByText := true, laidKinds := [.data, .handle], laidTests := true, laidLooks := .later }
def RelWayCardSaid : Prop := Claim7.holds Tryd.pinned (.plain (OpenSpec.ofChange relWaySpec)) relWayCard

/-- THE TIED CARD OF 'quietwinglaw1.RelOrder'. -/
def relOrderCard : Claim7 := { stood := { row := relOrderRow, standIns := [], harness := (true, "248b3ba483042b3cb0718cbce77f8c9b34db0c0a0b9ef3e647512dc38d28fa90"), looks := true }, kinds := [], alts := [], laidByText := true, laidKinds := [.data], laidTests := true, laidLooks := .later }
def RelOrderCardSaid : Prop := Claim7.holds Tryd.pinned (.plain (OpenSpec.ofChange relOrderSpec)) relOrderCard

/-- THE SECOND FORM's CARD OF 'quietwinglaw1.RelSays'. -/
def relSaysUptoCard : Claim7 := { stood := { row := relSaysUptoRow, standIns := [], harness := (true, "248b3ba483042b3cb0718cbce77f8c9b34db0c0a0b9ef3e647512dc38d28fa90"), looks := true }, kinds := [], alts := [], laidByText := true, laidKinds := [.data, .handle], laidTests := true, laidLooks := .later }
def RelSaysUptoCardSaid : Prop := Claim7.holds Tryd.pinned (.plain (OpenSpec.upto relSaysSpec)) relSaysUptoCard

/-- THE SECOND FORM's CARD OF 'quietwinglaw1.RelCloses'. -/
def relClosesUptoCard : Claim7 := { stood := { row := relClosesUptoRow, standIns := [], harness := (true, "248b3ba483042b3cb0718cbce77f8c9b34db0c0a0b9ef3e647512dc38d28fa90"), looks := true }, kinds := [], alts := [], laidByText := true, laidKinds := [.data], laidTests := true, laidLooks := .later }
def RelClosesUptoCardSaid : Prop := Claim7.holds Tryd.pinned (.plain (OpenSpec.upto relClosesSpec)) relClosesUptoCard

/-- THE SECOND FORM's CARD OF 'quietwinglaw1.RelReduces'. -/
def relReducesUptoCard : Claim7 := { stood := { row := relReducesUptoRow, standIns := [], harness := (true, "248b3ba483042b3cb0718cbce77f8c9b34db0c0a0b9ef3e647512dc38d28fa90"), looks := true }, kinds := [], alts := [], laidByText := true, laidKinds := [.data], laidTests := true, laidLooks := .later }
def RelReducesUptoCardSaid : Prop := Claim7.holds Tryd.pinned (.plain (OpenSpec.upto relReducesSpec)) relReducesUptoCard

/-- THE SECOND FORM's CARD OF 'quietwinglaw1.RelWay'. -/
def relWayUptoCard : Claim7 := { stood := { row := relWayUptoRow, standIns := [], harness := (true, "248b3ba483042b3cb0718cbce77f8c9b34db0c0a0b9ef3e647512dc38d28fa90"), looks := true }, kinds := [], alts := [], laidByText := true, laidKinds := [.data, .handle], laidTests := true, laidLooks := .later }
def RelWayUptoCardSaid : Prop := Claim7.holds Tryd.pinned (.plain (OpenSpec.upto relWaySpec)) relWayUptoCard

/-- THE SECOND FORM's CARD OF 'quietwinglaw1.RelOrder'. -/
def relOrderUptoCard : Claim7 := { stood := { row := relOrderUptoRow, standIns := [], harness := (true, "248b3ba483042b3cb0718cbce77f8c9b34db0c0a0b9ef3e647512dc38d28fa90"), looks := true }, kinds := [], alts := [], laidByText := true, laidKinds := [.data], laidTests := true, laidLooks := .later }
def RelOrderUptoCardSaid : Prop := Claim7.holds Tryd.pinned (.plain (OpenSpec.upto relOrderSpec)) relOrderUptoCard
end Rows
end Go.Proofs.YtfdappdcihljdaaDoor
