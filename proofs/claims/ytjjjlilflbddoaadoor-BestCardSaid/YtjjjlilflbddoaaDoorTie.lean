/-
  DERIVED. GIVEN WITH THE SEED: THE PROGRAM's TIES (one call each: nine closed facts by the kernel) AND EACH ROW's TIE, after the 31st guide's Derived/Test/Toyas{Tie, Card}.lean. No idea stands in it: it is a product of the set-up. Laid BY PROGRAM, IN A SANDBOX (cutbox-door.mjs). By AI agents, Wed Nov 11 2026. No macro, syntax, notation, axiom, sorry.
-/
import Derived.Test.YtjjjlilflbddoaaDoorRows
import Derived.LaidByTextLater
import Derived.SevenTiedAt
import Derived.LaidSub
import Derived.LaidOnce
namespace Go.Proofs.YtjjjlilflbddoaaDoor
open Go
set_option maxRecDepth 100000
theorem seatTie1 : Tryd.prog.laidByTextLater [("gunz/gunzref.order", Rows.laid_gunz_gunzref_order), ("math/bits.deBruijn32tab", Rows.laid_math_bits_deBruijn32tab), ("math/bits.deBruijn64tab", Rows.laid_math_bits_deBruijn64tab), ("internal/strconv.uint64pow10", Rows.laid_internal_strconv_uint64pow10), ("errors.errorType", Rows.laid_errors_errorType), ("gunz/packed.tellingOrder", Rows.laid_gunz_packed_tellingOrder), ("gunz/packed.lengthFrom", Rows.laid_gunz_packed_lengthFrom), ("gunz/packed.distanceFrom", Rows.laid_gunz_packed_distanceFrom), ("gunz/packed.ErrBlock", Rows.laid_gunz_packed_ErrBlock), ("gunz/packed.ErrStored", Rows.laid_gunz_packed_ErrStored), ("gunz/packed.ErrCode", Rows.laid_gunz_packed_ErrCode), ("gunz/packed.ErrSymbol", Rows.laid_gunz_packed_ErrSymbol), ("gunz/packed.ErrFar", Rows.laid_gunz_packed_ErrFar), ("gunz/packed.ErrLimit", Rows.laid_gunz_packed_ErrLimit), ("gunz/gziptext.ErrHead", Rows.laid_gunz_gziptext_ErrHead), ("gunz/gziptext.ErrSum", Rows.laid_gunz_gziptext_ErrSum)] [.data, .data, .data, .data, .handle, .data, .data, .data, .sentinel, .sentinel, .sentinel, .sentinel, .sentinel, .sentinel, .sentinel, .sentinel] true :=
  Program.laidByTextLater_by_one 203 8 65 (by kernel_rfl) (by kernel_rfl) (by kernel_rfl) (by kernel_rfl) (by kernel_rfl) (by kernel_rfl) (fun _ _ => by kernel_rfl)
theorem noOwnUnsafe : Tryd.pinned.checked.prog.headLifts.contains "ownunsafe" = false := by kernel_rfl
theorem tie : Tryd.prog.laidByTextLater [("math/bits.deBruijn32tab", Rows.laid_math_bits_deBruijn32tab), ("math/bits.deBruijn64tab", Rows.laid_math_bits_deBruijn64tab), ("internal/strconv.uint64pow10", Rows.laid_internal_strconv_uint64pow10), ("errors.errorType", Rows.laid_errors_errorType), ("gunz/packed.tellingOrder", Rows.laid_gunz_packed_tellingOrder), ("gunz/packed.lengthFrom", Rows.laid_gunz_packed_lengthFrom), ("gunz/packed.distanceFrom", Rows.laid_gunz_packed_distanceFrom), ("gunz/packed.ErrBlock", Rows.laid_gunz_packed_ErrBlock), ("gunz/packed.ErrStored", Rows.laid_gunz_packed_ErrStored), ("gunz/packed.ErrCode", Rows.laid_gunz_packed_ErrCode), ("gunz/packed.ErrSymbol", Rows.laid_gunz_packed_ErrSymbol), ("gunz/packed.ErrFar", Rows.laid_gunz_packed_ErrFar), ("gunz/packed.ErrLimit", Rows.laid_gunz_packed_ErrLimit), ("gunz/gziptext.ErrHead", Rows.laid_gunz_gziptext_ErrHead), ("gunz/gziptext.ErrSum", Rows.laid_gunz_gziptext_ErrSum)] [.data, .data, .data, .handle, .data, .data, .data, .sentinel, .sentinel, .sentinel, .sentinel, .sentinel, .sentinel, .sentinel, .sentinel] true :=
  Program.laidByTextLater.sub seatTie1 ["math/bits.deBruijn32tab", "math/bits.deBruijn64tab", "internal/strconv.uint64pow10", "errors.errorType", "gunz/packed.tellingOrder", "gunz/packed.lengthFrom", "gunz/packed.distanceFrom", "gunz/packed.ErrBlock", "gunz/packed.ErrStored", "gunz/packed.ErrCode", "gunz/packed.ErrSymbol", "gunz/packed.ErrFar", "gunz/packed.ErrLimit", "gunz/gziptext.ErrHead", "gunz/gziptext.ErrSum"] (by kernel_rfl) (by kernel_rfl)
theorem behind_row_tie : Rows.behindRow.laidByTextAt .later Tryd.pinned [.data, .data, .data, .handle, .data, .data, .data, .sentinel, .sentinel, .sentinel, .sentinel, .sentinel, .sentinel, .sentinel, .sentinel] true :=
  OpenClaim.laidByTextAt_later rfl rfl tie noOwnUnsafe
theorem room_row_tie : Rows.roomRow.laidByTextAt .later Tryd.pinned [.data, .data, .data, .handle, .data, .data, .data, .sentinel, .sentinel, .sentinel, .sentinel, .sentinel, .sentinel, .sentinel, .sentinel] true :=
  OpenClaim.laidByTextAt_later rfl rfl tie noOwnUnsafe
theorem pieces_row_tie : Rows.piecesRow.laidByTextAt .later Tryd.pinned [.data, .data, .data, .handle, .data, .data, .data, .sentinel, .sentinel, .sentinel, .sentinel, .sentinel, .sentinel, .sentinel, .sentinel] true :=
  OpenClaim.laidByTextAt_later rfl rfl tie noOwnUnsafe
theorem unseen_row_tie : Rows.unseenRow.laidByTextAt .later Tryd.pinned [.data, .data, .data, .handle, .data, .data, .data, .sentinel, .sentinel, .sentinel, .sentinel, .sentinel, .sentinel, .sentinel, .sentinel] true :=
  OpenClaim.laidByTextAt_later rfl rfl tie noOwnUnsafe
theorem tie2 : Tryd.prog.laidByTextLater [("gunz/gunzref.order", Rows.laid_gunz_gunzref_order), ("gunz/packed.tellingOrder", Rows.laid_gunz_packed_tellingOrder), ("gunz/packed.lengthFrom", Rows.laid_gunz_packed_lengthFrom), ("gunz/packed.distanceFrom", Rows.laid_gunz_packed_distanceFrom)] [.data, .data, .data, .data] true :=
  Program.laidByTextLater.sub seatTie1 ["gunz/gunzref.order", "gunz/packed.tellingOrder", "gunz/packed.lengthFrom", "gunz/packed.distanceFrom"] (by kernel_rfl) (by kernel_rfl)
theorem deflates_row_tie : Rows.deflatesRow.laidByTextAt .later Tryd.pinned [.data, .data, .data, .data] true :=
  OpenClaim.laidByTextAt_later rfl rfl tie2 noOwnUnsafe
theorem best_row_tie : Rows.bestRow.laidByTextAt .later Tryd.pinned [.data, .data, .data, .data] true :=
  OpenClaim.laidByTextAt_later rfl rfl tie2 noOwnUnsafe
theorem behindUpto_row_tie : Rows.behindUptoRow.laidByTextAt .later Tryd.pinned [.data, .data, .data, .handle, .data, .data, .data, .sentinel, .sentinel, .sentinel, .sentinel, .sentinel, .sentinel, .sentinel, .sentinel] true :=
  OpenClaim.laidByTextAt_later rfl rfl tie noOwnUnsafe
theorem roomUpto_row_tie : Rows.roomUptoRow.laidByTextAt .later Tryd.pinned [.data, .data, .data, .handle, .data, .data, .data, .sentinel, .sentinel, .sentinel, .sentinel, .sentinel, .sentinel, .sentinel, .sentinel] true :=
  OpenClaim.laidByTextAt_later rfl rfl tie noOwnUnsafe
theorem piecesUpto_row_tie : Rows.piecesUptoRow.laidByTextAt .later Tryd.pinned [.data, .data, .data, .handle, .data, .data, .data, .sentinel, .sentinel, .sentinel, .sentinel, .sentinel, .sentinel, .sentinel, .sentinel] true :=
  OpenClaim.laidByTextAt_later rfl rfl tie noOwnUnsafe
theorem unseenUpto_row_tie : Rows.unseenUptoRow.laidByTextAt .later Tryd.pinned [.data, .data, .data, .handle, .data, .data, .data, .sentinel, .sentinel, .sentinel, .sentinel, .sentinel, .sentinel, .sentinel, .sentinel] true :=
  OpenClaim.laidByTextAt_later rfl rfl tie noOwnUnsafe
theorem deflatesUpto_row_tie : Rows.deflatesUptoRow.laidByTextAt .later Tryd.pinned [.data, .data, .data, .data] true :=
  OpenClaim.laidByTextAt_later rfl rfl tie2 noOwnUnsafe
theorem bestUpto_row_tie : Rows.bestUptoRow.laidByTextAt .later Tryd.pinned [.data, .data, .data, .data] true :=
  OpenClaim.laidByTextAt_later rfl rfl tie2 noOwnUnsafe
end Go.Proofs.YtjjjlilflbddoaaDoor
