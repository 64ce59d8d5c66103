/-
  DERIVED. GIVEN WITH THE SEED: THE CARDS: each row of YtjjjlilflbddoaaDoorRows.lean that lists a variable, with what it lists TIED to the program's text (the seventh form; the later family's looks); each row that meets fmt, with fmt's text TOLD by the authors' own Lean function (tested against real Go, not proved from fmt's source: count such statements apart). THE CARD IS WHAT COUNTS. Prove the row's statement (the work); the ties are given (YtjjjlilflbddoaaDoorTie.lean); close each card by the builder's one call (the guide's Derived/Test/ToyasCard.lean, 'card_holds'). Laid BY PROGRAM, IN A SANDBOX (cutbox-door.mjs). By AI agents, Wed Nov 11 2026. No macro, syntax, notation, axiom, sorry.
-/
import Derived.Test.YtjjjlilflbddoaaDoorRows
import GoSem.ClaimSeven
namespace Go.Proofs.YtjjjlilflbddoaaDoor
namespace Rows

/-- THE TIED CARD OF 'gunzlaw.Behind'. -/
def behindCard : Claim7 := { stood := { row := behindRow, standIns := [], harness := (true, "cf9218bd58e48220990c250b6f99888519f8ddb573b76f7e9a002a722f40b037"), looks := true }, kinds := [], alts := [], laidByText := true, laidKinds := [.data, .data, .data, .handle, .data, .data, .data, .sentinel, .sentinel, .sentinel, .sentinel, .sentinel, .sentinel, .sentinel, .sentinel], laidTests := true, laidLooks := .later }
def BehindCardSaid : Prop := Claim7.holds Tryd.pinned (.plain (OpenSpec.ofChange behindSpec)) behindCard

/-- THE TIED CARD OF 'gunzlaw.Room'. -/
def roomCard : Claim7 := { stood := { row := roomRow, standIns := [], harness := (true, "cf9218bd58e48220990c250b6f99888519f8ddb573b76f7e9a002a722f40b037"), looks := true }, kinds := [], alts := [], laidByText := true, laidKinds := [.data, .data, .data, .handle, .data, .data, .data, .sentinel, .sentinel, .sentinel, .sentinel, .sentinel, .sentinel, .sentinel, .sentinel], laidTests := true, laidLooks := .later }
def RoomCardSaid : Prop := Claim7.holds Tryd.pinned (.plain (OpenSpec.ofChange roomSpec)) roomCard

/-- THE TIED CARD OF 'gunzlaw.Pieces'. -/
def piecesCard : Claim7 := { stood := { row := piecesRow, standIns := [], harness := (true, "cf9218bd58e48220990c250b6f99888519f8ddb573b76f7e9a002a722f40b037"), looks := true }, kinds := [], alts := [], laidByText := true, laidKinds := [.data, .data, .data, .handle, .data, .data, .data, .sentinel, .sentinel, .sentinel, .sentinel, .sentinel, .sentinel, .sentinel, .sentinel], laidTests := true, laidLooks := .later }
def PiecesCardSaid : Prop := Claim7.holds Tryd.pinned (.plain (OpenSpec.ofChange piecesSpec)) piecesCard

/-- THE TIED CARD OF 'gunzlaw.Unseen'. -/
def unseenCard : Claim7 := { stood := { row := unseenRow, standIns := [], harness := (true, "cf9218bd58e48220990c250b6f99888519f8ddb573b76f7e9a002a722f40b037"), looks := true }, kinds := [], alts := [], laidByText := true, laidKinds := [.data, .data, .data, .handle, .data, .data, .data, .sentinel, .sentinel, .sentinel, .sentinel, .sentinel, .sentinel, .sentinel, .sentinel], laidTests := true, laidLooks := .later }
def UnseenCardSaid : Prop := Claim7.holds Tryd.pinned (.plain (OpenSpec.ofChange unseenSpec)) unseenCard

/-- THE TIED CARD OF 'gunzlaw.Deflates'. -/
def deflatesCard : Claim7 := { stood := { row := deflatesRow, standIns := [], harness := (true, "cf9218bd58e48220990c250b6f99888519f8ddb573b76f7e9a002a722f40b037"), looks := true }, kinds := [], alts := [], laidByText := true, laidKinds := [.data, .data, .data, .data], laidTests := true, laidLooks := .later }
def DeflatesCardSaid : Prop := Claim7.holds Tryd.pinned (.plain (OpenSpec.ofChange deflatesSpec)) deflatesCard

/-- THE TIED CARD OF 'gunzlaw.Best'. -/
def bestCard : Claim7 := { stood := { row := bestRow, standIns := [], harness := (true, "cf9218bd58e48220990c250b6f99888519f8ddb573b76f7e9a002a722f40b037"), looks := true }, kinds := [], alts := [], laidByText := true, laidKinds := [.data, .data, .data, .data], laidTests := true, laidLooks := .later }
def BestCardSaid : Prop := Claim7.holds Tryd.pinned (.plain (OpenSpec.ofChange bestSpec)) bestCard

/-- THE SECOND FORM's CARD OF 'gunzlaw.Behind'. -/
def behindUptoCard : Claim7 := { stood := { row := behindUptoRow, standIns := [], harness := (true, "cf9218bd58e48220990c250b6f99888519f8ddb573b76f7e9a002a722f40b037"), looks := true }, kinds := [], alts := [], laidByText := true, laidKinds := [.data, .data, .data, .handle, .data, .data, .data, .sentinel, .sentinel, .sentinel, .sentinel, .sentinel, .sentinel, .sentinel, .sentinel], laidTests := true, laidLooks := .later }
def BehindUptoCardSaid : Prop := Claim7.holds Tryd.pinned (.plain (OpenSpec.upto behindSpec)) behindUptoCard

/-- THE SECOND FORM's CARD OF 'gunzlaw.Room'. -/
def roomUptoCard : Claim7 := { stood := { row := roomUptoRow, standIns := [], harness := (true, "cf9218bd58e48220990c250b6f99888519f8ddb573b76f7e9a002a722f40b037"), looks := true }, kinds := [], alts := [], laidByText := true, laidKinds := [.data, .data, .data, .handle, .data, .data, .data, .sentinel, .sentinel, .sentinel, .sentinel, .sentinel, .sentinel, .sentinel, .sentinel], laidTests := true, laidLooks := .later }
def RoomUptoCardSaid : Prop := Claim7.holds Tryd.pinned (.plain (OpenSpec.upto roomSpec)) roomUptoCard

/-- THE SECOND FORM's CARD OF 'gunzlaw.Pieces'. -/
def piecesUptoCard : Claim7 := { stood := { row := piecesUptoRow, standIns := [], harness := (true, "cf9218bd58e48220990c250b6f99888519f8ddb573b76f7e9a002a722f40b037"), looks := true }, kinds := [], alts := [], laidByText := true, laidKinds := [.data, .data, .data, .handle, .data, .data, .data, .sentinel, .sentinel, .sentinel, .sentinel, .sentinel, .sentinel, .sentinel, .sentinel], laidTests := true, laidLooks := .later }
def PiecesUptoCardSaid : Prop := Claim7.holds Tryd.pinned (.plain (OpenSpec.upto piecesSpec)) piecesUptoCard

/-- THE SECOND FORM's CARD OF 'gunzlaw.Unseen'. -/
def unseenUptoCard : Claim7 := { stood := { row := unseenUptoRow, standIns := [], harness := (true, "cf9218bd58e48220990c250b6f99888519f8ddb573b76f7e9a002a722f40b037"), looks := true }, kinds := [], alts := [], laidByText := true, laidKinds := [.data, .data, .data, .handle, .data, .data, .data, .sentinel, .sentinel, .sentinel, .sentinel, .sentinel, .sentinel, .sentinel, .sentinel], laidTests := true, laidLooks := .later }
def UnseenUptoCardSaid : Prop := Claim7.holds Tryd.pinned (.plain (OpenSpec.upto unseenSpec)) unseenUptoCard

/-- THE SECOND FORM's CARD OF 'gunzlaw.Deflates'. -/
def deflatesUptoCard : Claim7 := { stood := { row := deflatesUptoRow, standIns := [], harness := (true, "cf9218bd58e48220990c250b6f99888519f8ddb573b76f7e9a002a722f40b037"), looks := true }, kinds := [], alts := [], laidByText := true, laidKinds := [.data, .data, .data, .data], laidTests := true, laidLooks := .later }
def DeflatesUptoCardSaid : Prop := Claim7.holds Tryd.pinned (.plain (OpenSpec.upto deflatesSpec)) deflatesUptoCard

/-- THE SECOND FORM's CARD OF 'gunzlaw.Best'. -/
def bestUptoCard : Claim7 := { stood := { row := bestUptoRow, standIns := [], harness := (true, "cf9218bd58e48220990c250b6f99888519f8ddb573b76f7e9a002a722f40b037"), looks := true }, kinds := [], alts := [], laidByText := true, laidKinds := [.data, .data, .data, .data], laidTests := true, laidLooks := .later }
def BestUptoCardSaid : Prop := Claim7.holds Tryd.pinned (.plain (OpenSpec.upto bestSpec)) bestUptoCard
end Rows
end Go.Proofs.YtjjjlilflbddoaaDoor
