/-
  DERIVED. GIVEN WITH THE SEED: THE CARDS: each row of YtihojhfpepbjhaaGreatDoorRows.lean that lists a variable, with what it lists TIED to the program's text (the seventh form; the later family's looks); each row that meets fmt, with fmt's text TOLD by the authors' own Lean function (tested against real Go, not proved from fmt's source: count such statements apart). THE CARD IS WHAT COUNTS. Prove the row's statement (the work); the ties are given (YtihojhfpepbjhaaGreatDoorTie.lean); close each card by the builder's one call (the guide's Derived/Test/ToyasCard.lean, 'card_holds'). Laid BY PROGRAM, IN A SANDBOX (cutbox-door.mjs). By AI agents, Wed Nov 11 2026. No macro, syntax, notation, axiom, sorry.
-/
import Derived.Test.YtihojhfpepbjhaaGreatDoorRows
import GoSem.ClaimSeven
namespace Go.Proofs.YtihojhfpepbjhaaGreatDoor
namespace Rows

/-- THE TIED CARD OF 'gamelaw.HousePlays'. -/
def housePlaysCard : Claim7 := { stood := { row := housePlaysRow, standIns := [], harness := (true, "5aa683d3d4ad230112d514966aab05460497e7ffdcb9e9e3a20f662207dfd0d9"), looks := true }, kinds := [], alts := [], laidByText := true, laidKinds := [.data, .data, .data, .data, .pinned], laidTests := true, laidLooks := .later }
def HousePlaysCardSaid : Prop := Claim7.holds Tryz.pinned (.plain (OpenSpec.ofChange housePlaysSpec)) housePlaysCard

/-- THE TIED CARD OF 'gamelaw.HouseOpens'. -/
def houseOpensCard : Claim7 := { stood := { row := houseOpensRow, standIns := [], harness := (true, "5aa683d3d4ad230112d514966aab05460497e7ffdcb9e9e3a20f662207dfd0d9"), looks := true }, kinds := [], alts := [], laidByText := true, laidKinds := [.data, .data, .data, .data, .sentinel, .sentinel, .pinned], laidTests := true, laidLooks := .later }
def HouseOpensCardSaid : Prop := Claim7.holds Tryz.pinned (.plain (OpenSpec.ofChange houseOpensSpec)) houseOpensCard

/-- THE TIED CARD OF 'gamekeep.HouseOnce'. -/
def houseOnceCard : Claim7 := { stood := { row := houseOnceRow, standIns := [], harness := (true, "5aa683d3d4ad230112d514966aab05460497e7ffdcb9e9e3a20f662207dfd0d9"), looks := true }, kinds := [], alts := [], laidByText := true, laidKinds := [.data, .data, .data, .data, .pinned], laidTests := true, laidLooks := .later }
def HouseOnceCardSaid : Prop := Claim7.holds Tryz.pinned (.plain (OpenSpec.ofChange houseOnceSpec)) houseOnceCard

/-- THE TIED CARD OF 'gamekeep.HouseOpen'. -/
def houseOpenCard : Claim7 := { stood := { row := houseOpenRow, standIns := [], harness := (true, "5aa683d3d4ad230112d514966aab05460497e7ffdcb9e9e3a20f662207dfd0d9"), looks := true }, kinds := [], alts := [], laidByText := true, laidKinds := [.data, .data, .data, .data, .sentinel, .sentinel, .pinned], laidTests := true, laidLooks := .later }
def HouseOpenCardSaid : Prop := Claim7.holds Tryz.pinned (.plain (OpenSpec.ofChange houseOpenSpec)) houseOpenCard

/-- THE TIED CARD OF 'gamekeep.RulesMemory'. -/
def rulesMemoryCard : Claim7 := { stood := { row := rulesMemoryRow, standIns := [], harness := (true, "5aa683d3d4ad230112d514966aab05460497e7ffdcb9e9e3a20f662207dfd0d9"), looks := true }, kinds := [], alts := [], laidByText := true, laidKinds := [.data, .data, .data, .data, .pinned], laidTests := true, laidLooks := .later }
def RulesMemoryCardSaid : Prop := Claim7.holds Tryz.pinned (.plain (OpenSpec.ofChange rulesMemorySpec)) rulesMemoryCard

/-- THE SECOND FORM's CARD OF 'gamelaw.HousePlays'. -/
def housePlaysUptoCard : Claim7 := { stood := { row := housePlaysUptoRow, standIns := [], harness := (true, "5aa683d3d4ad230112d514966aab05460497e7ffdcb9e9e3a20f662207dfd0d9"), looks := true }, kinds := [], alts := [], laidByText := true, laidKinds := [.data, .data, .data, .data, .pinned], laidTests := true, laidLooks := .later }
def HousePlaysUptoCardSaid : Prop := Claim7.holds Tryz.pinned (.plain (OpenSpec.upto housePlaysSpec)) housePlaysUptoCard

/-- THE SECOND FORM's CARD OF 'gamelaw.HouseOpens'. -/
def houseOpensUptoCard : Claim7 := { stood := { row := houseOpensUptoRow, standIns := [], harness := (true, "5aa683d3d4ad230112d514966aab05460497e7ffdcb9e9e3a20f662207dfd0d9"), looks := true }, kinds := [], alts := [], laidByText := true, laidKinds := [.data, .data, .data, .data, .sentinel, .sentinel, .pinned], laidTests := true, laidLooks := .later }
def HouseOpensUptoCardSaid : Prop := Claim7.holds Tryz.pinned (.plain (OpenSpec.upto houseOpensSpec)) houseOpensUptoCard

/-- THE SECOND FORM's CARD OF 'gamekeep.HouseOnce'. -/
def houseOnceUptoCard : Claim7 := { stood := { row := houseOnceUptoRow, standIns := [], harness := (true, "5aa683d3d4ad230112d514966aab05460497e7ffdcb9e9e3a20f662207dfd0d9"), looks := true }, kinds := [], alts := [], laidByText := true, laidKinds := [.data, .data, .data, .data, .pinned], laidTests := true, laidLooks := .later }
def HouseOnceUptoCardSaid : Prop := Claim7.holds Tryz.pinned (.plain (OpenSpec.upto houseOnceSpec)) houseOnceUptoCard

/-- THE SECOND FORM's CARD OF 'gamekeep.HouseOpen'. -/
def houseOpenUptoCard : Claim7 := { stood := { row := houseOpenUptoRow, standIns := [], harness := (true, "5aa683d3d4ad230112d514966aab05460497e7ffdcb9e9e3a20f662207dfd0d9"), looks := true }, kinds := [], alts := [], laidByText := true, laidKinds := [.data, .data, .data, .data, .sentinel, .sentinel, .pinned], laidTests := true, laidLooks := .later }
def HouseOpenUptoCardSaid : Prop := Claim7.holds Tryz.pinned (.plain (OpenSpec.upto houseOpenSpec)) houseOpenUptoCard

/-- THE SECOND FORM's CARD OF 'gamekeep.RulesMemory'. -/
def rulesMemoryUptoCard : Claim7 := { stood := { row := rulesMemoryUptoRow, standIns := [], harness := (true, "5aa683d3d4ad230112d514966aab05460497e7ffdcb9e9e3a20f662207dfd0d9"), looks := true }, kinds := [], alts := [], laidByText := true, laidKinds := [.data, .data, .data, .data, .pinned], laidTests := true, laidLooks := .later }
def RulesMemoryUptoCardSaid : Prop := Claim7.holds Tryz.pinned (.plain (OpenSpec.upto rulesMemorySpec)) rulesMemoryUptoCard
end Rows
end Go.Proofs.YtihojhfpepbjhaaGreatDoor
