import Derived.Test.YtjjjlilflbddoaaGreatDoorRRowI
import Derived.Test.YtjjjlilflbddoaaGreatDoorTie
import Derived.Test.YtjjjlilflbddoaaGreatDoorCards
import Derived.SevenTiedAt
namespace Go.Proofs.YtjjjlilflbddoaaGreatDoor
open Go

theorem inflates_card : Rows.InflatesCardSaid :=
  Claim7.holds_tied_plain_at .later [] _ _ _ _
    inflates_holds (fun _ h => by cases h) (by kernel_rfl) (fun _ h => by cases h) inflates_row_tie rfl ⟨rfl, rfl⟩ (by kernel_rfl) rfl
    (fun f fn hf hfn => by
      obtain rfl : f = 3 := Option.some.inj ((show Tryz.prog.funcNamed "gunz/gunzlaw.Inflates" = some 3 by kernel_rfl).symm.trans hf) |>.symm
      obtain rfl : fn = Tryz.f3 := (Option.some.inj (Tryz.func3.symm.trans hfn)).symm
      exact ⟨by kernel_rfl, fun j t ht => by
        rw [Tryz.params3] at ht
        have h3 : t = 9 ∨ t = 3 := by
          rcases j with _ | _ | j
          · left; simpa using ht.symm
          · right; simpa using ht.symm
          · simp at ht
        rcases h3 with rfl | rfl
        · exact (show Tryz.prog.wantsStandIn 9 = false by kernel_rfl)
        · exact (show Tryz.prog.wantsStandIn 3 = false by kernel_rfl)⟩)
    (by kernel_rfl)
#print axioms inflates_card
end Go.Proofs.YtjjjlilflbddoaaGreatDoor
