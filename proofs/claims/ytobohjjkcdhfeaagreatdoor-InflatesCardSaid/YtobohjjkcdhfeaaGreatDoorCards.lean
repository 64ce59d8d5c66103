/-
  DERIVED. GIVEN WITH THE SEED: THE CARDS: each row of YtobohjjkcdhfeaaGreatDoorRows.lean that lists a variable, with what it lists TIED to the program's text (the seventh form; the later family's looks); each row that meets fmt, with fmt's text TOLD by the authors' own Lean function (tested against real Go, not proved from fmt's source: count such statements apart). THE CARD IS WHAT COUNTS. Prove the row's statement (the work); the ties are given (YtobohjjkcdhfeaaGreatDoorTie.lean); close each card by the builder's one call (the guide's Derived/Test/ToyasCard.lean, 'card_holds'). Laid BY PROGRAM, IN A SANDBOX (cutbox-door.mjs). By AI agents, Wed Nov 11 2026. No macro, syntax, notation, axiom, sorry.
-/
import Derived.Test.YtobohjjkcdhfeaaGreatDoorRows
import GoSem.ClaimSeven
namespace Go.Proofs.YtobohjjkcdhfeaaGreatDoor
namespace Rows

/-- THE TIED CARD OF 'gunzlaw.Inflates'. -/
def inflatesCard : Claim7 := { stood := { row := inflatesRow, standIns := [], harness := (true, "91c9cc97504d06d528a22bad1768a7aae65f08c0f370d1d5ace8944949b91419"), looks := true }, kinds := [], alts := [], laidByText := true, laidKinds := [.data, .data, .data, .data, .handle, .data, .data, .data, .sentinel, .sentinel, .sentinel, .sentinel, .sentinel, .sentinel], laidTests := true, laidLooks := .later }
def InflatesCardSaid : Prop := Claim7.holds Tryz.pinned (.plain (OpenSpec.ofChange inflatesSpec)) inflatesCard

/-- THE SECOND FORM's CARD OF 'gunzlaw.Inflates'. -/
def inflatesUptoCard : Claim7 := { stood := { row := inflatesUptoRow, standIns := [], harness := (true, "91c9cc97504d06d528a22bad1768a7aae65f08c0f370d1d5ace8944949b91419"), looks := true }, kinds := [], alts := [], laidByText := true, laidKinds := [.data, .data, .data, .data, .handle, .data, .data, .data, .sentinel, .sentinel, .sentinel, .sentinel, .sentinel, .sentinel], laidTests := true, laidLooks := .later }
def InflatesUptoCardSaid : Prop := Claim7.holds Tryz.pinned (.plain (OpenSpec.upto inflatesSpec)) inflatesUptoCard
end Rows
end Go.Proofs.YtobohjjkcdhfeaaGreatDoor
