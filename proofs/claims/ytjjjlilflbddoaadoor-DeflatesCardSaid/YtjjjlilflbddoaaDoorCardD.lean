import Derived.Test.YtjjjlilflbddoaaDoorRowD
import Derived.Test.YtjjjlilflbddoaaDoorTie
import Derived.Test.YtjjjlilflbddoaaDoorCards
import Derived.SevenTiedAt
namespace Go.Proofs.YtjjjlilflbddoaaDoor
open Go

theorem deflates_card : Rows.DeflatesCardSaid :=
  Claim7.holds_tied_plain_at .later [] _ _ _ _
    deflates_holds (fun _ h => by cases h) (by kernel_rfl) (fun _ h => by cases h) deflates_row_tie rfl ⟨rfl, rfl⟩ (by kernel_rfl) rfl
    (fun f fn hf hfn => by
      obtain rfl : f = 7 := Option.some.inj ((show Tryd.prog.funcNamed "gunz/gunzlaw.Deflates" = some 7 by kernel_rfl).symm.trans hf) |>.symm
      obtain rfl : fn = Tryd.f7 := (Option.some.inj (Tryd.func7.symm.trans hfn)).symm
      exact ⟨by kernel_rfl, fun j t ht => by
        rw [Tryd.params7] at ht
        have h3 : t = 9 ∨ t = 3 := by
          rcases j with _ | _ | j
          · left; simpa using ht.symm
          · right; simpa using ht.symm
          · simp at ht
        rcases h3 with rfl | rfl
        · exact (show Tryd.prog.wantsStandIn 9 = false by kernel_rfl)
        · exact (show Tryd.prog.wantsStandIn 3 = false by kernel_rfl)⟩)
    (by kernel_rfl)
#print axioms deflates_card
end Go.Proofs.YtjjjlilflbddoaaDoor
