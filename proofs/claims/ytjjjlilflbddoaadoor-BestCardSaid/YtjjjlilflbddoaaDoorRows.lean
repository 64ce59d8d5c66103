/-
  NARROWER THAN 'FOR EVERY INPUT', by the rows' own cells (each row's printed sentence says how): Behind: laid · Room: laid · Pieces: laid · Unseen: laid · Deflates: laid · Best: laid.
  DERIVED. THE GIVEN ROWS OF THIS SEAT. 6 by the template 'for every input the law returns true; each argument reads behind the call as it read before'; 0 by the template 'total and deterministic' (their statements: YtjjjlilflbddoaaDoorTotals.lean).
  GIVEN WITH THE SEED: the statements are not yours to turn. If you find one false, say at which input.
  Laid BY PROGRAM, IN A SANDBOX (cutbox-rows.mjs): the forced cells as the released guide's own fill.sh prints them over the translation cfd86ddfd196afdf… (all of the seat's roots in one cut). By AI agents, Wed Nov 11 2026. No macro, syntax, notation, axiom, sorry.
-/
import Derived.Test.YtjjjlilflbddoaaDoorChecked
import GoSem.Claim
import GoSem.ClaimJoined
import GoSem.ClaimMapViews
import Derived.JoinedTies
import Derived.KernelRfl
namespace Go.Proofs.YtjjjlilflbddoaaDoor
/- THE CELL 'sum', in the pinned program and in every row, IS THE sha256 OF THE DUMP (.gsa) THAT YtjjjlilflbddoaaDoorProg.lean LOADS. Nothing in Lean hashes anything: it is a label: what it is worth is what the hold of that sum in a sandbox is worth. -/
noncomputable def Tryd.pinned : Pinned := { name := "ytjjjlilflbddoaadoor", sum := "cfd86ddfd196afdfabb8719c9563ce567b81f0626c542bbca2da2915091a326e", checked := Tryd.checked }
namespace Rows
def none {H : Type} : Left H := { results := [], args := [] }

/- WHAT THE LISTED PACKAGE-LEVEL VARIABLES READ AS WHEN THE CALL BEGINS. Each datum BY PROGRAM (the guide's laid-datum.mjs) off the statement by which the dump's own 'gosem.cut.vars' lays the variable. In a bare row this is a premise. The card (YtjjjlilflbddoaaDoorCards.lean) ties it to the program's text. -/
def laid_math_bits_deBruijn32tab {H : Type} : DataW H := .agg [.lit (.int .u8 0), .lit (.int .u8 1), .lit (.int .u8 28), .lit (.int .u8 2), .lit (.int .u8 29), .lit (.int .u8 14), .lit (.int .u8 24), .lit (.int .u8 3), .lit (.int .u8 30), .lit (.int .u8 22), .lit (.int .u8 20), .lit (.int .u8 15), .lit (.int .u8 25), .lit (.int .u8 17), .lit (.int .u8 4), .lit (.int .u8 8), .lit (.int .u8 31), .lit (.int .u8 27), .lit (.int .u8 13), .lit (.int .u8 23), .lit (.int .u8 21), .lit (.int .u8 19), .lit (.int .u8 16), .lit (.int .u8 7), .lit (.int .u8 26), .lit (.int .u8 12), .lit (.int .u8 18), .lit (.int .u8 6), .lit (.int .u8 11), .lit (.int .u8 5), .lit (.int .u8 10), .lit (.int .u8 9)]
def laid_math_bits_deBruijn64tab {H : Type} : DataW H := .agg [.lit (.int .u8 0), .lit (.int .u8 1), .lit (.int .u8 56), .lit (.int .u8 2), .lit (.int .u8 57), .lit (.int .u8 49), .lit (.int .u8 28), .lit (.int .u8 3), .lit (.int .u8 61), .lit (.int .u8 58), .lit (.int .u8 42), .lit (.int .u8 50), .lit (.int .u8 38), .lit (.int .u8 29), .lit (.int .u8 17), .lit (.int .u8 4), .lit (.int .u8 62), .lit (.int .u8 47), .lit (.int .u8 59), .lit (.int .u8 36), .lit (.int .u8 45), .lit (.int .u8 43), .lit (.int .u8 51), .lit (.int .u8 22), .lit (.int .u8 53), .lit (.int .u8 39), .lit (.int .u8 33), .lit (.int .u8 30), .lit (.int .u8 24), .lit (.int .u8 18), .lit (.int .u8 12), .lit (.int .u8 5), .lit (.int .u8 63), .lit (.int .u8 55), .lit (.int .u8 48), .lit (.int .u8 27), .lit (.int .u8 60), .lit (.int .u8 41), .lit (.int .u8 37), .lit (.int .u8 16), .lit (.int .u8 46), .lit (.int .u8 35), .lit (.int .u8 44), .lit (.int .u8 21), .lit (.int .u8 52), .lit (.int .u8 32), .lit (.int .u8 23), .lit (.int .u8 11), .lit (.int .u8 54), .lit (.int .u8 26), .lit (.int .u8 40), .lit (.int .u8 15), .lit (.int .u8 34), .lit (.int .u8 20), .lit (.int .u8 31), .lit (.int .u8 10), .lit (.int .u8 25), .lit (.int .u8 14), .lit (.int .u8 19), .lit (.int .u8 9), .lit (.int .u8 13), .lit (.int .u8 8), .lit (.int .u8 7), .lit (.int .u8 6)]
def laid_internal_strconv_uint64pow10 {H : Type} : DataW H := .agg [.lit (.int .u64 1), .lit (.int .u64 10), .lit (.int .u64 100), .lit (.int .u64 1000), .lit (.int .u64 10000), .lit (.int .u64 100000), .lit (.int .u64 1000000), .lit (.int .u64 10000000), .lit (.int .u64 100000000), .lit (.int .u64 1000000000), .lit (.int .u64 10000000000), .lit (.int .u64 100000000000), .lit (.int .u64 1000000000000), .lit (.int .u64 10000000000000), .lit (.int .u64 100000000000000), .lit (.int .u64 1000000000000000), .lit (.int .u64 10000000000000000), .lit (.int .u64 100000000000000000), .lit (.int .u64 1000000000000000000), .lit (.int .u64 10000000000000000000)]
def laid_errors_errorType {H : Type} : DataW H := .iface "internal/reflectlite.rtype" (.agg [.ptr (.lit (.string [101, 114, 114, 111, 114]))])
def laid_gunz_packed_tellingOrder {H : Type} : DataW H := .agg [.lit (.int .i64 16), .lit (.int .i64 17), .lit (.int .i64 18), .lit (.int .i64 0), .lit (.int .i64 8), .lit (.int .i64 7), .lit (.int .i64 9), .lit (.int .i64 6), .lit (.int .i64 10), .lit (.int .i64 5), .lit (.int .i64 11), .lit (.int .i64 4), .lit (.int .i64 12), .lit (.int .i64 3), .lit (.int .i64 13), .lit (.int .i64 2), .lit (.int .i64 14), .lit (.int .i64 1), .lit (.int .i64 15)]
def laid_gunz_packed_lengthFrom {H : Type} : DataW H := .agg [.lit (.int .i64 3), .lit (.int .i64 4), .lit (.int .i64 5), .lit (.int .i64 6), .lit (.int .i64 7), .lit (.int .i64 8), .lit (.int .i64 9), .lit (.int .i64 10), .lit (.int .i64 11), .lit (.int .i64 13), .lit (.int .i64 15), .lit (.int .i64 17), .lit (.int .i64 19), .lit (.int .i64 23), .lit (.int .i64 27), .lit (.int .i64 31), .lit (.int .i64 35), .lit (.int .i64 43), .lit (.int .i64 51), .lit (.int .i64 59), .lit (.int .i64 67), .lit (.int .i64 83), .lit (.int .i64 99), .lit (.int .i64 115), .lit (.int .i64 131), .lit (.int .i64 163), .lit (.int .i64 195), .lit (.int .i64 227), .lit (.int .i64 258)]
def laid_gunz_packed_distanceFrom {H : Type} : DataW H := .agg [.lit (.int .i64 1), .lit (.int .i64 2), .lit (.int .i64 3), .lit (.int .i64 4), .lit (.int .i64 5), .lit (.int .i64 7), .lit (.int .i64 9), .lit (.int .i64 13), .lit (.int .i64 17), .lit (.int .i64 25), .lit (.int .i64 33), .lit (.int .i64 49), .lit (.int .i64 65), .lit (.int .i64 97), .lit (.int .i64 129), .lit (.int .i64 193), .lit (.int .i64 257), .lit (.int .i64 385), .lit (.int .i64 513), .lit (.int .i64 769), .lit (.int .i64 1025), .lit (.int .i64 1537), .lit (.int .i64 2049), .lit (.int .i64 3073), .lit (.int .i64 4097), .lit (.int .i64 6145), .lit (.int .i64 8193), .lit (.int .i64 12289), .lit (.int .i64 16385), .lit (.int .i64 24577)]
def laid_gunz_packed_ErrBlock {H : Type} : DataW H := .iface "*errors.errorString" (.ptr (.agg [.lit (.string [110, 111, 32, 115, 117, 99, 104, 32, 107, 105, 110, 100, 32, 111, 102, 32, 98, 108, 111, 99, 107])]))
def laid_gunz_packed_ErrStored {H : Type} : DataW H := .iface "*errors.errorString" (.ptr (.agg [.lit (.string [97, 32, 110, 117, 109, 98, 101, 114, 32, 111, 102, 32, 98, 121, 116, 101, 115, 32, 116, 104, 97, 116, 32, 100, 111, 101, 115, 32, 110, 111, 116, 32, 97, 103, 114, 101, 101, 32, 119, 105, 116, 104, 32, 105, 116, 115, 101, 108, 102])]))
def laid_gunz_packed_ErrCode {H : Type} : DataW H := .iface "*errors.errorString" (.ptr (.agg [.lit (.string [108, 101, 110, 103, 116, 104, 115, 32, 116, 104, 97, 116, 32, 109, 97, 107, 101, 32, 110, 111, 32, 99, 111, 100, 101])]))
def laid_gunz_packed_ErrSymbol {H : Type} : DataW H := .iface "*errors.errorString" (.ptr (.agg [.lit (.string [98, 105, 116, 115, 32, 116, 104, 97, 116, 32, 97, 114, 101, 32, 110, 111, 32, 115, 121, 109, 98, 111, 108])]))
def laid_gunz_packed_ErrFar {H : Type} : DataW H := .iface "*errors.errorString" (.ptr (.agg [.lit (.string [97, 32, 100, 105, 115, 116, 97, 110, 99, 101, 32, 98, 101, 121, 111, 110, 100, 32, 116, 104, 101, 32, 98, 101, 103, 105, 110, 110, 105, 110, 103])]))
def laid_gunz_packed_ErrLimit {H : Type} : DataW H := .iface "*errors.errorString" (.ptr (.agg [.lit (.string [109, 111, 114, 101, 32, 116, 104, 97, 110, 32, 109, 97, 121, 32, 98, 101, 32, 112, 117, 116, 32, 111, 117, 116])]))
def laid_gunz_gziptext_ErrHead {H : Type} : DataW H := .iface "*errors.errorString" (.ptr (.agg [.lit (.string [97, 32, 104, 101, 97, 100, 32, 116, 104, 97, 116, 32, 105, 115, 32, 110, 111, 116, 32, 97, 115, 32, 105, 116, 32, 109, 117, 115, 116, 32, 98, 101])]))
def laid_gunz_gziptext_ErrSum {H : Type} : DataW H := .iface "*errors.errorString" (.ptr (.agg [.lit (.string [97, 110, 32, 101, 110, 100, 32, 116, 104, 97, 116, 32, 100, 111, 101, 115, 32, 110, 111, 116, 32, 97, 103, 114, 101, 101, 32, 119, 105, 116, 104, 32, 116, 104, 101, 32, 100, 97, 116, 97])]))
def laid_gunz_gunzref_order {H : Type} : DataW H := .agg [.lit (.int .i64 16), .lit (.int .i64 17), .lit (.int .i64 18), .lit (.int .i64 0), .lit (.int .i64 8), .lit (.int .i64 7), .lit (.int .i64 9), .lit (.int .i64 6), .lit (.int .i64 10), .lit (.int .i64 5), .lit (.int .i64 11), .lit (.int .i64 4), .lit (.int .i64 12), .lit (.int .i64 3), .lit (.int .i64 13), .lit (.int .i64 2), .lit (.int .i64 14), .lit (.int .i64 1), .lit (.int .i64 15)]

/-- 'gunzlaw.Behind': WHATEVER THE INPUT: true; the input reads as it did. -/
def behindSpec : ChangeSpec := { name := "behind", fn := fun _ => fun
  | [d1, d2, d3, d4] => { results := [.lit (.bool true)], args := [d1, d2, d3, d4] }
  | _ => none }
def behindRow : OpenClaim := { program := "ytjjjlilflbddoaadoor", sum := "cfd86ddfd196afdfabb8719c9563ce567b81f0626c542bbca2da2915091a326e", func := "gunz/gunzlaw.Behind", spec := "behind", inPlace := ["internal/reflectlite.ValueOf", "(internal/reflectlite.Value).Type", "(internal/reflectlite.Value).IsNil", "internal/reflectlite.TypeOf", "(internal/reflectlite.Value).Elem", "(internal/reflectlite.Value).Set"], unfollowed := true, recurses := true, named := ["gunz/packed.ErrBlock", "gunz/packed.ErrStored", "gunz/packed.ErrLimit", "gunz/packed.ErrCode", "gunz/packed.tellingOrder", "gunz/packed.ErrSymbol", "gunz/packed.lengthFrom", "gunz/packed.ErrFar", "gunz/packed.distanceFrom", "internal/strconv.uint64pow10", "math/bits.deBruijn32tab", "math/bits.deBruijn64tab", "gunz/gziptext.ErrHead", "gunz/gziptext.ErrSum", "errors.errorType"], plainKeys := false, apart := false, laid := [("math/bits.deBruijn32tab", laid_math_bits_deBruijn32tab), ("math/bits.deBruijn64tab", laid_math_bits_deBruijn64tab), ("internal/strconv.uint64pow10", laid_internal_strconv_uint64pow10), ("errors.errorType", laid_errors_errorType), ("gunz/packed.tellingOrder", laid_gunz_packed_tellingOrder), ("gunz/packed.lengthFrom", laid_gunz_packed_lengthFrom), ("gunz/packed.distanceFrom", laid_gunz_packed_distanceFrom), ("gunz/packed.ErrBlock", laid_gunz_packed_ErrBlock), ("gunz/packed.ErrStored", laid_gunz_packed_ErrStored), ("gunz/packed.ErrCode", laid_gunz_packed_ErrCode), ("gunz/packed.ErrSymbol", laid_gunz_packed_ErrSymbol), ("gunz/packed.ErrFar", laid_gunz_packed_ErrFar), ("gunz/packed.ErrLimit", laid_gunz_packed_ErrLimit), ("gunz/gziptext.ErrHead", laid_gunz_gziptext_ErrHead), ("gunz/gziptext.ErrSum", laid_gunz_gziptext_ErrSum)] }
def BehindSaid : Prop := behindRow.holds Tryd.pinned (OpenSpec.ofChange behindSpec)

/-- ITS FALSE NEIGHBOUR: 'it returns false'. Refute it at one input. -/
def behindWrong : ChangeSpec := { name := "behind", fn := fun _ => fun
  | [d1, d2, d3, d4] => { results := [.lit (.bool false)], args := [d1, d2, d3, d4] }
  | _ => none }
def BehindWrongFalsely : Prop := behindRow.holds Tryd.pinned (OpenSpec.ofChange behindWrong)

/-- 'gunzlaw.Room': WHATEVER THE INPUT: true; the input reads as it did. -/
def roomSpec : ChangeSpec := { name := "room", fn := fun _ => fun
  | [d1, d2, d3] => { results := [.lit (.bool true)], args := [d1, d2, d3] }
  | _ => none }
def roomRow : OpenClaim := { program := "ytjjjlilflbddoaadoor", sum := "cfd86ddfd196afdfabb8719c9563ce567b81f0626c542bbca2da2915091a326e", func := "gunz/gunzlaw.Room", spec := "room", inPlace := ["internal/reflectlite.ValueOf", "(internal/reflectlite.Value).Type", "(internal/reflectlite.Value).IsNil", "internal/reflectlite.TypeOf", "(internal/reflectlite.Value).Elem", "(internal/reflectlite.Value).Set"], unfollowed := true, recurses := true, named := ["gunz/packed.ErrBlock", "gunz/packed.ErrStored", "gunz/packed.ErrLimit", "gunz/packed.ErrCode", "gunz/packed.tellingOrder", "gunz/packed.ErrSymbol", "gunz/packed.lengthFrom", "gunz/packed.ErrFar", "gunz/packed.distanceFrom", "internal/strconv.uint64pow10", "math/bits.deBruijn32tab", "math/bits.deBruijn64tab", "gunz/gziptext.ErrHead", "gunz/gziptext.ErrSum", "errors.errorType"], plainKeys := false, apart := false, laid := [("math/bits.deBruijn32tab", laid_math_bits_deBruijn32tab), ("math/bits.deBruijn64tab", laid_math_bits_deBruijn64tab), ("internal/strconv.uint64pow10", laid_internal_strconv_uint64pow10), ("errors.errorType", laid_errors_errorType), ("gunz/packed.tellingOrder", laid_gunz_packed_tellingOrder), ("gunz/packed.lengthFrom", laid_gunz_packed_lengthFrom), ("gunz/packed.distanceFrom", laid_gunz_packed_distanceFrom), ("gunz/packed.ErrBlock", laid_gunz_packed_ErrBlock), ("gunz/packed.ErrStored", laid_gunz_packed_ErrStored), ("gunz/packed.ErrCode", laid_gunz_packed_ErrCode), ("gunz/packed.ErrSymbol", laid_gunz_packed_ErrSymbol), ("gunz/packed.ErrFar", laid_gunz_packed_ErrFar), ("gunz/packed.ErrLimit", laid_gunz_packed_ErrLimit), ("gunz/gziptext.ErrHead", laid_gunz_gziptext_ErrHead), ("gunz/gziptext.ErrSum", laid_gunz_gziptext_ErrSum)] }
def RoomSaid : Prop := roomRow.holds Tryd.pinned (OpenSpec.ofChange roomSpec)

/-- ITS FALSE NEIGHBOUR: 'it returns false'. Refute it at one input. -/
def roomWrong : ChangeSpec := { name := "room", fn := fun _ => fun
  | [d1, d2, d3] => { results := [.lit (.bool false)], args := [d1, d2, d3] }
  | _ => none }
def RoomWrongFalsely : Prop := roomRow.holds Tryd.pinned (OpenSpec.ofChange roomWrong)

/-- 'gunzlaw.Pieces': WHATEVER THE INPUT: true; the input reads as it did. -/
def piecesSpec : ChangeSpec := { name := "pieces", fn := fun _ => fun
  | [d1, d2, d3, d4] => { results := [.lit (.bool true)], args := [d1, d2, d3, d4] }
  | _ => none }
def piecesRow : OpenClaim := { program := "ytjjjlilflbddoaadoor", sum := "cfd86ddfd196afdfabb8719c9563ce567b81f0626c542bbca2da2915091a326e", func := "gunz/gunzlaw.Pieces", spec := "pieces", inPlace := ["internal/reflectlite.ValueOf", "(internal/reflectlite.Value).Type", "(internal/reflectlite.Value).IsNil", "internal/reflectlite.TypeOf", "(internal/reflectlite.Value).Elem", "(internal/reflectlite.Value).Set"], unfollowed := true, recurses := true, named := ["gunz/packed.ErrBlock", "gunz/packed.ErrStored", "gunz/packed.ErrLimit", "gunz/packed.ErrCode", "gunz/packed.tellingOrder", "gunz/packed.ErrSymbol", "gunz/packed.lengthFrom", "gunz/packed.ErrFar", "gunz/packed.distanceFrom", "internal/strconv.uint64pow10", "math/bits.deBruijn32tab", "math/bits.deBruijn64tab", "gunz/gziptext.ErrHead", "gunz/gziptext.ErrSum", "errors.errorType"], plainKeys := false, apart := false, laid := [("math/bits.deBruijn32tab", laid_math_bits_deBruijn32tab), ("math/bits.deBruijn64tab", laid_math_bits_deBruijn64tab), ("internal/strconv.uint64pow10", laid_internal_strconv_uint64pow10), ("errors.errorType", laid_errors_errorType), ("gunz/packed.tellingOrder", laid_gunz_packed_tellingOrder), ("gunz/packed.lengthFrom", laid_gunz_packed_lengthFrom), ("gunz/packed.distanceFrom", laid_gunz_packed_distanceFrom), ("gunz/packed.ErrBlock", laid_gunz_packed_ErrBlock), ("gunz/packed.ErrStored", laid_gunz_packed_ErrStored), ("gunz/packed.ErrCode", laid_gunz_packed_ErrCode), ("gunz/packed.ErrSymbol", laid_gunz_packed_ErrSymbol), ("gunz/packed.ErrFar", laid_gunz_packed_ErrFar), ("gunz/packed.ErrLimit", laid_gunz_packed_ErrLimit), ("gunz/gziptext.ErrHead", laid_gunz_gziptext_ErrHead), ("gunz/gziptext.ErrSum", laid_gunz_gziptext_ErrSum)] }
def PiecesSaid : Prop := piecesRow.holds Tryd.pinned (OpenSpec.ofChange piecesSpec)

/-- ITS FALSE NEIGHBOUR: 'it returns false'. Refute it at one input. -/
def piecesWrong : ChangeSpec := { name := "pieces", fn := fun _ => fun
  | [d1, d2, d3, d4] => { results := [.lit (.bool false)], args := [d1, d2, d3, d4] }
  | _ => none }
def PiecesWrongFalsely : Prop := piecesRow.holds Tryd.pinned (OpenSpec.ofChange piecesWrong)

/-- 'gunzlaw.Unseen': WHATEVER THE INPUT: true; the input reads as it did. -/
def unseenSpec : ChangeSpec := { name := "unseen", fn := fun _ => fun
  | [d1, d2, d3] => { results := [.lit (.bool true)], args := [d1, d2, d3] }
  | _ => none }
def unseenRow : OpenClaim := { program := "ytjjjlilflbddoaadoor", sum := "cfd86ddfd196afdfabb8719c9563ce567b81f0626c542bbca2da2915091a326e", func := "gunz/gunzlaw.Unseen", spec := "unseen", inPlace := ["internal/reflectlite.ValueOf", "(internal/reflectlite.Value).Type", "(internal/reflectlite.Value).IsNil", "internal/reflectlite.TypeOf", "(internal/reflectlite.Value).Elem", "(internal/reflectlite.Value).Set"], unfollowed := true, recurses := true, named := ["gunz/packed.ErrBlock", "gunz/packed.ErrStored", "gunz/packed.ErrLimit", "gunz/packed.ErrCode", "gunz/packed.tellingOrder", "gunz/packed.ErrSymbol", "gunz/packed.lengthFrom", "gunz/packed.ErrFar", "gunz/packed.distanceFrom", "internal/strconv.uint64pow10", "math/bits.deBruijn32tab", "math/bits.deBruijn64tab", "gunz/gziptext.ErrHead", "gunz/gziptext.ErrSum", "errors.errorType"], plainKeys := false, apart := false, laid := [("math/bits.deBruijn32tab", laid_math_bits_deBruijn32tab), ("math/bits.deBruijn64tab", laid_math_bits_deBruijn64tab), ("internal/strconv.uint64pow10", laid_internal_strconv_uint64pow10), ("errors.errorType", laid_errors_errorType), ("gunz/packed.tellingOrder", laid_gunz_packed_tellingOrder), ("gunz/packed.lengthFrom", laid_gunz_packed_lengthFrom), ("gunz/packed.distanceFrom", laid_gunz_packed_distanceFrom), ("gunz/packed.ErrBlock", laid_gunz_packed_ErrBlock), ("gunz/packed.ErrStored", laid_gunz_packed_ErrStored), ("gunz/packed.ErrCode", laid_gunz_packed_ErrCode), ("gunz/packed.ErrSymbol", laid_gunz_packed_ErrSymbol), ("gunz/packed.ErrFar", laid_gunz_packed_ErrFar), ("gunz/packed.ErrLimit", laid_gunz_packed_ErrLimit), ("gunz/gziptext.ErrHead", laid_gunz_gziptext_ErrHead), ("gunz/gziptext.ErrSum", laid_gunz_gziptext_ErrSum)] }
def UnseenSaid : Prop := unseenRow.holds Tryd.pinned (OpenSpec.ofChange unseenSpec)

/-- ITS FALSE NEIGHBOUR: 'it returns false'. Refute it at one input. -/
def unseenWrong : ChangeSpec := { name := "unseen", fn := fun _ => fun
  | [d1, d2, d3] => { results := [.lit (.bool false)], args := [d1, d2, d3] }
  | _ => none }
def UnseenWrongFalsely : Prop := unseenRow.holds Tryd.pinned (OpenSpec.ofChange unseenWrong)

/-- 'gunzlaw.Deflates': WHATEVER THE INPUT: true; the input reads as it did. -/
def deflatesSpec : ChangeSpec := { name := "deflates", fn := fun _ => fun
  | [d1, d2] => { results := [.lit (.bool true)], args := [d1, d2] }
  | _ => none }
def deflatesRow : OpenClaim := { program := "ytjjjlilflbddoaadoor", sum := "cfd86ddfd196afdfabb8719c9563ce567b81f0626c542bbca2da2915091a326e", func := "gunz/gunzlaw.Deflates", spec := "deflates", unfollowed := true, recurses := true, named := ["gunz/packed.lengthFrom", "gunz/packed.distanceFrom", "gunz/packed.tellingOrder", "gunz/gunzref.order"], plainKeys := false, apart := false, laid := [("gunz/gunzref.order", laid_gunz_gunzref_order), ("gunz/packed.tellingOrder", laid_gunz_packed_tellingOrder), ("gunz/packed.lengthFrom", laid_gunz_packed_lengthFrom), ("gunz/packed.distanceFrom", laid_gunz_packed_distanceFrom)] }
def DeflatesSaid : Prop := deflatesRow.holds Tryd.pinned (OpenSpec.ofChange deflatesSpec)

/-- ITS FALSE NEIGHBOUR: 'it returns false'. Refute it at one input. -/
def deflatesWrong : ChangeSpec := { name := "deflates", fn := fun _ => fun
  | [d1, d2] => { results := [.lit (.bool false)], args := [d1, d2] }
  | _ => none }
def DeflatesWrongFalsely : Prop := deflatesRow.holds Tryd.pinned (OpenSpec.ofChange deflatesWrong)

/-- 'gunzlaw.Best': WHATEVER THE INPUT: true; the input reads as it did. -/
def bestSpec : ChangeSpec := { name := "best", fn := fun _ => fun
  | [d1, d2] => { results := [.lit (.bool true)], args := [d1, d2] }
  | _ => none }
def bestRow : OpenClaim := { program := "ytjjjlilflbddoaadoor", sum := "cfd86ddfd196afdfabb8719c9563ce567b81f0626c542bbca2da2915091a326e", func := "gunz/gunzlaw.Best", spec := "best", unfollowed := true, recurses := true, named := ["gunz/packed.lengthFrom", "gunz/packed.distanceFrom", "gunz/packed.tellingOrder", "gunz/gunzref.order"], plainKeys := false, apart := false, laid := [("gunz/gunzref.order", laid_gunz_gunzref_order), ("gunz/packed.tellingOrder", laid_gunz_packed_tellingOrder), ("gunz/packed.lengthFrom", laid_gunz_packed_lengthFrom), ("gunz/packed.distanceFrom", laid_gunz_packed_distanceFrom)] }
def BestSaid : Prop := bestRow.holds Tryd.pinned (OpenSpec.ofChange bestSpec)

/-- ITS FALSE NEIGHBOUR: 'it returns false'. Refute it at one input. -/
def bestWrong : ChangeSpec := { name := "best", fn := fun _ => fun
  | [d1, d2] => { results := [.lit (.bool false)], args := [d1, d2] }
  | _ => none }
def BestWrongFalsely : Prop := bestRow.holds Tryd.pinned (OpenSpec.ofChange bestWrong)

/- THE SECOND FORM. 'bulk': how many values and letters a reading holds, each counted each time it is reached (what is shared counts as often as it is met; a slice's spare places count too). A statement '..UptoSaid' is the law's where the arguments, and the package variables that the reading takes, are together of bulk at most 1048576: NARROWER than '..Said'. Prove '..Said' where nothing that the law and all that it calls make is longer than what came in: it says more and counts as full. Else prove '..UptoSaid'. A law counts once. -/
mutual
def uptoBulk {H : Type} : DataW H → Nat
  | .lit (.string bytes) => bytes.length + 1
  | .lit _ => 1
  | .nil => 1
  | .ptr d => uptoBulk d + 1
  | .slice elems spare => uptoBulkAll elems + uptoBulkAll spare + 1
  | .agg parts => uptoBulkAll parts + 1
  | .iface _ d => uptoBulk d + 1
  | .map entries => uptoBulkEntries entries + 1
  | .held _ => 1
def uptoBulkAll {H : Type} : List (DataW H) → Nat
  | [] => 0
  | d :: r => uptoBulk d + uptoBulkAll r
def uptoBulkEntries {H : Type} : List (Lit × DataW H) → Nat
  | [] => 0
  | x :: r => uptoBulkEntry x + uptoBulkEntries r
def uptoBulkEntry {H : Type} : Lit × DataW H → Nat
  | (.string bytes, d) => bytes.length + uptoBulk d + 1
  | (_, d) => uptoBulk d + 1
 end
def uptoSmall : (H : Type) → List (DataW H) → Bool := fun _ ds => decide (uptoBulkAll ds ≤ 1048576)
def OpenSpec.upto (s : _root_.Go.ChangeSpec) : _root_.Go.OpenSpec := { _root_.Go.OpenSpec.ofChange s with cond := some uptoSmall }

/-- 'gunzlaw.Behind', WHERE WHAT IT READS IS OF BULK AT MOST 1048576: true; the input reads as it did. -/
def behindUptoRow : OpenClaim := { program := "ytjjjlilflbddoaadoor", sum := "cfd86ddfd196afdfabb8719c9563ce567b81f0626c542bbca2da2915091a326e", func := "gunz/gunzlaw.Behind", spec := "behind", inPlace := ["internal/reflectlite.ValueOf", "(internal/reflectlite.Value).Type", "(internal/reflectlite.Value).IsNil", "internal/reflectlite.TypeOf", "(internal/reflectlite.Value).Elem", "(internal/reflectlite.Value).Set"], unfollowed := true, recurses := true, named := ["gunz/packed.ErrBlock", "gunz/packed.ErrStored", "gunz/packed.ErrLimit", "gunz/packed.ErrCode", "gunz/packed.tellingOrder", "gunz/packed.ErrSymbol", "gunz/packed.lengthFrom", "gunz/packed.ErrFar", "gunz/packed.distanceFrom", "internal/strconv.uint64pow10", "math/bits.deBruijn32tab", "math/bits.deBruijn64tab", "gunz/gziptext.ErrHead", "gunz/gziptext.ErrSum", "errors.errorType"], plainKeys := false, apart := false, laid := [("math/bits.deBruijn32tab", laid_math_bits_deBruijn32tab), ("math/bits.deBruijn64tab", laid_math_bits_deBruijn64tab), ("internal/strconv.uint64pow10", laid_internal_strconv_uint64pow10), ("errors.errorType", laid_errors_errorType), ("gunz/packed.tellingOrder", laid_gunz_packed_tellingOrder), ("gunz/packed.lengthFrom", laid_gunz_packed_lengthFrom), ("gunz/packed.distanceFrom", laid_gunz_packed_distanceFrom), ("gunz/packed.ErrBlock", laid_gunz_packed_ErrBlock), ("gunz/packed.ErrStored", laid_gunz_packed_ErrStored), ("gunz/packed.ErrCode", laid_gunz_packed_ErrCode), ("gunz/packed.ErrSymbol", laid_gunz_packed_ErrSymbol), ("gunz/packed.ErrFar", laid_gunz_packed_ErrFar), ("gunz/packed.ErrLimit", laid_gunz_packed_ErrLimit), ("gunz/gziptext.ErrHead", laid_gunz_gziptext_ErrHead), ("gunz/gziptext.ErrSum", laid_gunz_gziptext_ErrSum)], narrowed := true }
def BehindUptoSaid : Prop := behindUptoRow.holds Tryd.pinned (OpenSpec.upto behindSpec)

/-- 'gunzlaw.Room', WHERE WHAT IT READS IS OF BULK AT MOST 1048576: true; the input reads as it did. -/
def roomUptoRow : OpenClaim := { program := "ytjjjlilflbddoaadoor", sum := "cfd86ddfd196afdfabb8719c9563ce567b81f0626c542bbca2da2915091a326e", func := "gunz/gunzlaw.Room", spec := "room", inPlace := ["internal/reflectlite.ValueOf", "(internal/reflectlite.Value).Type", "(internal/reflectlite.Value).IsNil", "internal/reflectlite.TypeOf", "(internal/reflectlite.Value).Elem", "(internal/reflectlite.Value).Set"], unfollowed := true, recurses := true, named := ["gunz/packed.ErrBlock", "gunz/packed.ErrStored", "gunz/packed.ErrLimit", "gunz/packed.ErrCode", "gunz/packed.tellingOrder", "gunz/packed.ErrSymbol", "gunz/packed.lengthFrom", "gunz/packed.ErrFar", "gunz/packed.distanceFrom", "internal/strconv.uint64pow10", "math/bits.deBruijn32tab", "math/bits.deBruijn64tab", "gunz/gziptext.ErrHead", "gunz/gziptext.ErrSum", "errors.errorType"], plainKeys := false, apart := false, laid := [("math/bits.deBruijn32tab", laid_math_bits_deBruijn32tab), ("math/bits.deBruijn64tab", laid_math_bits_deBruijn64tab), ("internal/strconv.uint64pow10", laid_internal_strconv_uint64pow10), ("errors.errorType", laid_errors_errorType), ("gunz/packed.tellingOrder", laid_gunz_packed_tellingOrder), ("gunz/packed.lengthFrom", laid_gunz_packed_lengthFrom), ("gunz/packed.distanceFrom", laid_gunz_packed_distanceFrom), ("gunz/packed.ErrBlock", laid_gunz_packed_ErrBlock), ("gunz/packed.ErrStored", laid_gunz_packed_ErrStored), ("gunz/packed.ErrCode", laid_gunz_packed_ErrCode), ("gunz/packed.ErrSymbol", laid_gunz_packed_ErrSymbol), ("gunz/packed.ErrFar", laid_gunz_packed_ErrFar), ("gunz/packed.ErrLimit", laid_gunz_packed_ErrLimit), ("gunz/gziptext.ErrHead", laid_gunz_gziptext_ErrHead), ("gunz/gziptext.ErrSum", laid_gunz_gziptext_ErrSum)], narrowed := true }
def RoomUptoSaid : Prop := roomUptoRow.holds Tryd.pinned (OpenSpec.upto roomSpec)

/-- 'gunzlaw.Pieces', WHERE WHAT IT READS IS OF BULK AT MOST 1048576: true; the input reads as it did. -/
def piecesUptoRow : OpenClaim := { program := "ytjjjlilflbddoaadoor", sum := "cfd86ddfd196afdfabb8719c9563ce567b81f0626c542bbca2da2915091a326e", func := "gunz/gunzlaw.Pieces", spec := "pieces", inPlace := ["internal/reflectlite.ValueOf", "(internal/reflectlite.Value).Type", "(internal/reflectlite.Value).IsNil", "internal/reflectlite.TypeOf", "(internal/reflectlite.Value).Elem", "(internal/reflectlite.Value).Set"], unfollowed := true, recurses := true, named := ["gunz/packed.ErrBlock", "gunz/packed.ErrStored", "gunz/packed.ErrLimit", "gunz/packed.ErrCode", "gunz/packed.tellingOrder", "gunz/packed.ErrSymbol", "gunz/packed.lengthFrom", "gunz/packed.ErrFar", "gunz/packed.distanceFrom", "internal/strconv.uint64pow10", "math/bits.deBruijn32tab", "math/bits.deBruijn64tab", "gunz/gziptext.ErrHead", "gunz/gziptext.ErrSum", "errors.errorType"], plainKeys := false, apart := false, laid := [("math/bits.deBruijn32tab", laid_math_bits_deBruijn32tab), ("math/bits.deBruijn64tab", laid_math_bits_deBruijn64tab), ("internal/strconv.uint64pow10", laid_internal_strconv_uint64pow10), ("errors.errorType", laid_errors_errorType), ("gunz/packed.tellingOrder", laid_gunz_packed_tellingOrder), ("gunz/packed.lengthFrom", laid_gunz_packed_lengthFrom), ("gunz/packed.distanceFrom", laid_gunz_packed_distanceFrom), ("gunz/packed.ErrBlock", laid_gunz_packed_ErrBlock), ("gunz/packed.ErrStored", laid_gunz_packed_ErrStored), ("gunz/packed.ErrCode", laid_gunz_packed_ErrCode), ("gunz/packed.ErrSymbol", laid_gunz_packed_ErrSymbol), ("gunz/packed.ErrFar", laid_gunz_packed_ErrFar), ("gunz/packed.ErrLimit", laid_gunz_packed_ErrLimit), ("gunz/gziptext.ErrHead", laid_gunz_gziptext_ErrHead), ("gunz/gziptext.ErrSum", laid_gunz_gziptext_ErrSum)], narrowed := true }
def PiecesUptoSaid : Prop := piecesUptoRow.holds Tryd.pinned (OpenSpec.upto piecesSpec)

/-- 'gunzlaw.Unseen', WHERE WHAT IT READS IS OF BULK AT MOST 1048576: true; the input reads as it did. -/
def unseenUptoRow : OpenClaim := { program := "ytjjjlilflbddoaadoor", sum := "cfd86ddfd196afdfabb8719c9563ce567b81f0626c542bbca2da2915091a326e", func := "gunz/gunzlaw.Unseen", spec := "unseen", inPlace := ["internal/reflectlite.ValueOf", "(internal/reflectlite.Value).Type", "(internal/reflectlite.Value).IsNil", "internal/reflectlite.TypeOf", "(internal/reflectlite.Value).Elem", "(internal/reflectlite.Value).Set"], unfollowed := true, recurses := true, named := ["gunz/packed.ErrBlock", "gunz/packed.ErrStored", "gunz/packed.ErrLimit", "gunz/packed.ErrCode", "gunz/packed.tellingOrder", "gunz/packed.ErrSymbol", "gunz/packed.lengthFrom", "gunz/packed.ErrFar", "gunz/packed.distanceFrom", "internal/strconv.uint64pow10", "math/bits.deBruijn32tab", "math/bits.deBruijn64tab", "gunz/gziptext.ErrHead", "gunz/gziptext.ErrSum", "errors.errorType"], plainKeys := false, apart := false, laid := [("math/bits.deBruijn32tab", laid_math_bits_deBruijn32tab), ("math/bits.deBruijn64tab", laid_math_bits_deBruijn64tab), ("internal/strconv.uint64pow10", laid_internal_strconv_uint64pow10), ("errors.errorType", laid_errors_errorType), ("gunz/packed.tellingOrder", laid_gunz_packed_tellingOrder), ("gunz/packed.lengthFrom", laid_gunz_packed_lengthFrom), ("gunz/packed.distanceFrom", laid_gunz_packed_distanceFrom), ("gunz/packed.ErrBlock", laid_gunz_packed_ErrBlock), ("gunz/packed.ErrStored", laid_gunz_packed_ErrStored), ("gunz/packed.ErrCode", laid_gunz_packed_ErrCode), ("gunz/packed.ErrSymbol", laid_gunz_packed_ErrSymbol), ("gunz/packed.ErrFar", laid_gunz_packed_ErrFar), ("gunz/packed.ErrLimit", laid_gunz_packed_ErrLimit), ("gunz/gziptext.ErrHead", laid_gunz_gziptext_ErrHead), ("gunz/gziptext.ErrSum", laid_gunz_gziptext_ErrSum)], narrowed := true }
def UnseenUptoSaid : Prop := unseenUptoRow.holds Tryd.pinned (OpenSpec.upto unseenSpec)

/-- 'gunzlaw.Deflates', WHERE WHAT IT READS IS OF BULK AT MOST 1048576: true; the input reads as it did. -/
def deflatesUptoRow : OpenClaim := { program := "ytjjjlilflbddoaadoor", sum := "cfd86ddfd196afdfabb8719c9563ce567b81f0626c542bbca2da2915091a326e", func := "gunz/gunzlaw.Deflates", spec := "deflates", unfollowed := true, recurses := true, named := ["gunz/packed.lengthFrom", "gunz/packed.distanceFrom", "gunz/packed.tellingOrder", "gunz/gunzref.order"], plainKeys := false, apart := false, laid := [("gunz/gunzref.order", laid_gunz_gunzref_order), ("gunz/packed.tellingOrder", laid_gunz_packed_tellingOrder), ("gunz/packed.lengthFrom", laid_gunz_packed_lengthFrom), ("gunz/packed.distanceFrom", laid_gunz_packed_distanceFrom)], narrowed := true }
def DeflatesUptoSaid : Prop := deflatesUptoRow.holds Tryd.pinned (OpenSpec.upto deflatesSpec)

/-- 'gunzlaw.Best', WHERE WHAT IT READS IS OF BULK AT MOST 1048576: true; the input reads as it did. -/
def bestUptoRow : OpenClaim := { program := "ytjjjlilflbddoaadoor", sum := "cfd86ddfd196afdfabb8719c9563ce567b81f0626c542bbca2da2915091a326e", func := "gunz/gunzlaw.Best", spec := "best", unfollowed := true, recurses := true, named := ["gunz/packed.lengthFrom", "gunz/packed.distanceFrom", "gunz/packed.tellingOrder", "gunz/gunzref.order"], plainKeys := false, apart := false, laid := [("gunz/gunzref.order", laid_gunz_gunzref_order), ("gunz/packed.tellingOrder", laid_gunz_packed_tellingOrder), ("gunz/packed.lengthFrom", laid_gunz_packed_lengthFrom), ("gunz/packed.distanceFrom", laid_gunz_packed_distanceFrom)], narrowed := true }
def BestUptoSaid : Prop := bestUptoRow.holds Tryd.pinned (OpenSpec.upto bestSpec)

end Rows
end Go.Proofs.YtjjjlilflbddoaaDoor
