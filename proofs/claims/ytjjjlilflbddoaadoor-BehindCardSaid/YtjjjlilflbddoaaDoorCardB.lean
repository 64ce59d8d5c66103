import Derived.Test.YtjjjlilflbddoaaDoorRowB
import Derived.Test.YtjjjlilflbddoaaDoorTie
import Derived.Test.YtjjjlilflbddoaaDoorCards
import Derived.SevenTiedAt
namespace Go.Proofs.YtjjjlilflbddoaaDoor
open Go

theorem behind_card : Rows.BehindCardSaid :=
  Claim7.holds_tied_plain_at .later [] _ _ _ _
    behind_holds (fun _ h => by cases h) (by kernel_rfl) (fun _ h => by cases h) behind_row_tie rfl ⟨rfl, rfl⟩ (by kernel_rfl) rfl
    (fun f fn hf hfn => by
      obtain rfl : f = 3 := Option.some.inj ((show Tryd.prog.funcNamed "gunz/gunzlaw.Behind" = some 3 by kernel_rfl).symm.trans hf) |>.symm
      obtain rfl : fn = Tryd.f3 := (Option.some.inj (Tryd.func3.symm.trans hfn)).symm
      exact ⟨by kernel_rfl, fun j t ht => by
        rw [Tryd.params3] at ht
        have h3 : t = 9 ∨ t = 3 := by
          rcases j with _ | _ | _ | _ | j
          · left; simpa using ht.symm
          · left; simpa using ht.symm
          · right; simpa using ht.symm
          · right; simpa using ht.symm
          · simp at ht
        rcases h3 with rfl | rfl
        · exact (show Tryd.prog.wantsStandIn 9 = false by kernel_rfl)
        · exact (show Tryd.prog.wantsStandIn 3 = false by kernel_rfl)⟩)
    (by kernel_rfl)
#print axioms behind_card
end Go.Proofs.YtjjjlilflbddoaaDoor
