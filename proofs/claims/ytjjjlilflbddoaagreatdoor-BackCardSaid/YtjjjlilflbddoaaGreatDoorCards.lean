/-
  DERIVED. GIVEN WITH THE SEED: THE CARDS: each row of YtjjjlilflbddoaaGreatDoorRows.lean that lists a variable, with what it lists TIED to the program's text (the seventh form; the later family's looks); each row that meets fmt, with fmt's text TOLD by the authors' own Lean function (tested against real Go, not proved from fmt's source: count such statements apart). THE CARD IS WHAT COUNTS. Prove the row's statement (the work); the ties are given (YtjjjlilflbddoaaGreatDoorTie.lean); close each card by the builder's one call (the guide's Derived/Test/ToyasCard.lean, 'card_holds'). Laid BY PROGRAM, IN A SANDBOX (cutbox-door.mjs). By AI agents, Wed Nov 11 2026. No macro, syntax, notation, axiom, sorry.
-/
import Derived.Test.YtjjjlilflbddoaaGreatDoorRows
import GoSem.ClaimSeven
namespace Go.Proofs.YtjjjlilflbddoaaGreatDoor
namespace Rows

/-- THE TIED CARD OF 'gunzlaw.Inflates'. -/
def inflatesCard : Claim7 := { stood := { row := inflatesRow, standIns := [], harness := (true, "18ad7f6bb347b472385f0ff9a669fff752aff9b2dff33d309b80c4b7cf3955f6"), looks := true }, kinds := [], alts := [], laidByText := true, laidKinds := [.data, .data, .data, .data, .handle, .data, .data, .data, .sentinel, .sentinel, .sentinel, .sentinel, .sentinel, .sentinel, .sentinel, .sentinel], laidTests := true, laidLooks := .later }
def InflatesCardSaid : Prop := Claim7.holds Tryz.pinned (.plain (OpenSpec.ofChange inflatesSpec)) inflatesCard

/-- THE TIED CARD OF 'gunzlaw.Feeds'. -/
def feedsCard : Claim7 := { stood := { row := feedsRow, standIns := [], harness := (true, "18ad7f6bb347b472385f0ff9a669fff752aff9b2dff33d309b80c4b7cf3955f6"), looks := true }, kinds := [], alts := [], laidByText := true, laidKinds := [.data, .data, .data, .data, .handle, .data, .data, .data, .sentinel, .sentinel, .sentinel, .sentinel, .sentinel, .sentinel, .sentinel, .sentinel], laidTests := true, laidLooks := .later }
def FeedsCardSaid : Prop := Claim7.holds Tryz.pinned (.plain (OpenSpec.ofChange feedsSpec)) feedsCard

/-- THE TIED CARD OF 'gunzlaw.Back'. -/
def backCard : Claim7 := { stood := { row := backRow, standIns := [], harness := (true, "18ad7f6bb347b472385f0ff9a669fff752aff9b2dff33d309b80c4b7cf3955f6"), looks := true }, kinds := [], alts := [], laidByText := true, laidKinds := [.data, .data, .data, .handle, .data, .data, .data, .sentinel, .sentinel, .sentinel, .sentinel, .sentinel, .sentinel, .sentinel, .sentinel], laidTests := true, laidLooks := .later }
def BackCardSaid : Prop := Claim7.holds Tryz.pinned (.plain (OpenSpec.ofChange backSpec)) backCard

/-- THE SECOND FORM's CARD OF 'gunzlaw.Inflates'. -/
def inflatesUptoCard : Claim7 := { stood := { row := inflatesUptoRow, standIns := [], harness := (true, "18ad7f6bb347b472385f0ff9a669fff752aff9b2dff33d309b80c4b7cf3955f6"), looks := true }, kinds := [], alts := [], laidByText := true, laidKinds := [.data, .data, .data, .data, .handle, .data, .data, .data, .sentinel, .sentinel, .sentinel, .sentinel, .sentinel, .sentinel, .sentinel, .sentinel], laidTests := true, laidLooks := .later }
def InflatesUptoCardSaid : Prop := Claim7.holds Tryz.pinned (.plain (OpenSpec.upto inflatesSpec)) inflatesUptoCard

/-- THE SECOND FORM's CARD OF 'gunzlaw.Feeds'. -/
def feedsUptoCard : Claim7 := { stood := { row := feedsUptoRow, standIns := [], harness := (true, "18ad7f6bb347b472385f0ff9a669fff752aff9b2dff33d309b80c4b7cf3955f6"), looks := true }, kinds := [], alts := [], laidByText := true, laidKinds := [.data, .data, .data, .data, .handle, .data, .data, .data, .sentinel, .sentinel, .sentinel, .sentinel, .sentinel, .sentinel, .sentinel, .sentinel], laidTests := true, laidLooks := .later }
def FeedsUptoCardSaid : Prop := Claim7.holds Tryz.pinned (.plain (OpenSpec.upto feedsSpec)) feedsUptoCard

/-- THE SECOND FORM's CARD OF 'gunzlaw.Back'. -/
def backUptoCard : Claim7 := { stood := { row := backUptoRow, standIns := [], harness := (true, "18ad7f6bb347b472385f0ff9a669fff752aff9b2dff33d309b80c4b7cf3955f6"), looks := true }, kinds := [], alts := [], laidByText := true, laidKinds := [.data, .data, .data, .handle, .data, .data, .data, .sentinel, .sentinel, .sentinel, .sentinel, .sentinel, .sentinel, .sentinel, .sentinel], laidTests := true, laidLooks := .later }
def BackUptoCardSaid : Prop := Claim7.holds Tryz.pinned (.plain (OpenSpec.upto backSpec)) backUptoCard
end Rows
end Go.Proofs.YtjjjlilflbddoaaGreatDoor
