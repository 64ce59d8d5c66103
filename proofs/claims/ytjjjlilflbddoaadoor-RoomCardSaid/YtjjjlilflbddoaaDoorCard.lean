import Derived.Test.YtjjjlilflbddoaaDoorRow
import Derived.Test.YtjjjlilflbddoaaDoorTie
import Derived.Test.YtjjjlilflbddoaaDoorCards
import Derived.SevenTiedAt
namespace Go.Proofs.YtjjjlilflbddoaaDoor
open Go

theorem room_card : Rows.RoomCardSaid :=
  Claim7.holds_tied_plain_at .later [] _ _ _ _
    room_holds (fun _ h => by cases h) (by kernel_rfl) (fun _ h => by cases h) room_row_tie rfl ⟨rfl, rfl⟩ (by kernel_rfl) rfl
    (fun f fn hf hfn => by
      obtain rfl : f = 4 := Option.some.inj ((show Tryd.prog.funcNamed "gunz/gunzlaw.Room" = some 4 by kernel_rfl).symm.trans hf) |>.symm
      obtain rfl : fn = Tryd.f4 := (Option.some.inj (Tryd.func4.symm.trans hfn)).symm
      exact ⟨by kernel_rfl, fun j t ht => by
        rw [Tryd.params4] at ht
        have h3 : t = 9 ∨ t = 3 := by
          rcases j with _ | _ | _ | j
          · left; simpa using ht.symm
          · right; simpa using ht.symm
          · right; simpa using ht.symm
          · simp at ht
        rcases h3 with rfl | rfl
        · exact (show Tryd.prog.wantsStandIn 9 = false by kernel_rfl)
        · exact (show Tryd.prog.wantsStandIn 3 = false by kernel_rfl)⟩)
    (by kernel_rfl)
#print axioms room_card
end Go.Proofs.YtjjjlilflbddoaaDoor
