import Derived.Test.YtjjjlilflbddoaaDoorRowE
import Derived.Test.YtjjjlilflbddoaaDoorTie
import Derived.Test.YtjjjlilflbddoaaDoorCards
import Derived.SevenTiedAt
namespace Go.Proofs.YtjjjlilflbddoaaDoor
open Go

theorem best_card : Rows.BestCardSaid :=
  Claim7.holds_tied_plain_at .later [] _ _ _ _
    best_holds (fun _ h => by cases h) (by kernel_rfl) (fun _ h => by cases h) best_row_tie rfl ⟨rfl, rfl⟩ (by kernel_rfl) rfl
    (fun f fn hf hfn => by
      obtain rfl : f = 8 := Option.some.inj ((show Tryd.prog.funcNamed "gunz/gunzlaw.Best" = some 8 by kernel_rfl).symm.trans hf) |>.symm
      obtain rfl : fn = Tryd.f8 := (Option.some.inj (Tryd.func8.symm.trans hfn)).symm
      exact ⟨by kernel_rfl, fun j t ht => by
        rw [Tryd.params8] at ht
        have h3 : t = 9 ∨ t = 30 := by
          rcases j with _ | _ | j
          · left; simpa using ht.symm
          · right; simpa using ht.symm
          · simp at ht
        rcases h3 with rfl | rfl
        · exact (show Tryd.prog.wantsStandIn 9 = false by kernel_rfl)
        · exact (show Tryd.prog.wantsStandIn 30 = false by kernel_rfl)⟩)
    (by kernel_rfl)
#print axioms best_card
end Go.Proofs.YtjjjlilflbddoaaDoor
