/-
  DERIVED. GIVEN WITH THE SEED: THE CARDS: each row of YtobohjjkcdhfeaaDoorRows.lean that lists a variable, with what it lists TIED to the program's text (the seventh form; the later family's looks); each row that meets fmt, with fmt's text TOLD by the authors' own Lean function (tested against real Go, not proved from fmt's source: count such statements apart). THE CARD IS WHAT COUNTS. Prove the row's statement (the work); the ties are given (YtobohjjkcdhfeaaDoorTie.lean); close each card by the builder's one call (the guide's Derived/Test/ToyasCard.lean, 'card_holds'). Laid BY PROGRAM, IN A SANDBOX (cutbox-door.mjs). By AI agents, Wed Nov 11 2026. No macro, syntax, notation, axiom, sorry.
-/
import Derived.Test.YtobohjjkcdhfeaaDoorRows
import GoSem.ClaimSeven
namespace Go.Proofs.YtobohjjkcdhfeaaDoor
namespace Rows

/-- THE TIED CARD OF 'gunzlaw.Behind'. -/
def behindCard : Claim7 := { stood := { row := behindRow, standIns := [], harness := (true, "22bb8e27f4a0be212f4d04c8bc2ed1cfc6a4a6538050c7611198a89def600e3a"), looks := true }, kinds := [], alts := [], laidByText := true, laidKinds := [.data, .data, .data, .handle, .data, .data, .data, .sentinel, .sentinel, .sentinel, .sentinel, .sentinel, .sentinel], laidTests := true, laidLooks := .later }
def BehindCardSaid : Prop := Claim7.holds Tryd.pinned (.plain (OpenSpec.ofChange behindSpec)) behindCard

/-- THE TIED CARD OF 'gunzlaw.Room'. -/
def roomCard : Claim7 := { stood := { row := roomRow, standIns := [], harness := (true, "22bb8e27f4a0be212f4d04c8bc2ed1cfc6a4a6538050c7611198a89def600e3a"), looks := true }, kinds := [], alts := [], laidByText := true, laidKinds := [.data, .data, .data, .handle, .data, .data, .data, .sentinel, .sentinel, .sentinel, .sentinel, .sentinel, .sentinel], laidTests := true, laidLooks := .later }
def RoomCardSaid : Prop := Claim7.holds Tryd.pinned (.plain (OpenSpec.ofChange roomSpec)) roomCard

/-- THE SECOND FORM's CARD OF 'gunzlaw.Behind'. -/
def behindUptoCard : Claim7 := { stood := { row := behindUptoRow, standIns := [], harness := (true, "22bb8e27f4a0be212f4d04c8bc2ed1cfc6a4a6538050c7611198a89def600e3a"), looks := true }, kinds := [], alts := [], laidByText := true, laidKinds := [.data, .data, .data, .handle, .data, .data, .data, .sentinel, .sentinel, .sentinel, .sentinel, .sentinel, .sentinel], laidTests := true, laidLooks := .later }
def BehindUptoCardSaid : Prop := Claim7.holds Tryd.pinned (.plain (OpenSpec.upto behindSpec)) behindUptoCard

/-- THE SECOND FORM's CARD OF 'gunzlaw.Room'. -/
def roomUptoCard : Claim7 := { stood := { row := roomUptoRow, standIns := [], harness := (true, "22bb8e27f4a0be212f4d04c8bc2ed1cfc6a4a6538050c7611198a89def600e3a"), looks := true }, kinds := [], alts := [], laidByText := true, laidKinds := [.data, .data, .data, .handle, .data, .data, .data, .sentinel, .sentinel, .sentinel, .sentinel, .sentinel, .sentinel], laidTests := true, laidLooks := .later }
def RoomUptoCardSaid : Prop := Claim7.holds Tryd.pinned (.plain (OpenSpec.upto roomSpec)) roomUptoCard
end Rows
end Go.Proofs.YtobohjjkcdhfeaaDoor
