import Derived.Test.YtjjjlilflbddoaaDoorLaidD
import Derived.LaidMore
import Derived.Carry
import Derived.ChangeMaps5
import Derived.Stop.Joined
namespace Go.Proofs.YtjjjlilflbddoaaDoor
open Go.ChangeShapes Go.WideShapes Go.ChangeAt Go.RowKit Go.ChangeMaps

/-- The law, for every input. -/
theorem deflates_any (t : ByteArray) (a : Int) (w : World) (hE : PkEnv w) (hO : OrdAt w) (hG : 11 < w.heap.size) : Calls Tryd.prog 7 #[.string t, .int .i64 a] w fun e w' => e = .returned (.bool true) ∧ Fr No w w' := by
  by_cases h : a < 0 ∨ 2 < a
  · exact deflatesLaw_bad t a w h
  · by_cases ht : 1500 < t.size
    · exact deflatesLaw_long t a w (by omega) (by omega) ht
    · obtain ⟨k, rfl⟩ : ∃ k : Nat, a = k := ⟨a.toNat, by omega⟩
      by_cases hk : k = 0
      · subst hk
        exact deflatesLaw_0 t w (by omega) hE
      · exact deflatesLaw_k t k w (by omega) (by omega) hE hO hG

theorem ownD : ownKnob Tryd.prog.godebug = none := by kernel_rfl

theorem Fr.keptD {w w' : World} (h : Fr No w w') (may : MemPlace → Prop) : w.keptBut w' may := by
  refine ⟨h.os, h.output, fun i hi => ?_⟩
  rw [h.block i hi (no_no i)]
  cases w.heap[i]? with
  | none => rfl
  | some o => cases o <;> first | exact ⟨rfl, rfl, rfl, fun _ _ => rfl⟩ | exact .inr ⟨rfl, rfl⟩ | rfl

/-- The door's own heap meets the condition. -/
theorem door_metD (os : Os) (args : Array Value) : laidMetH Tryd.prog Rows.deflatesRow.laid ((World.doorLaid Tryd.prog 400 os).forCall (fun _ _ => 0) ⟨#[], args, []⟩).memory :=
  laidMetH_of_parts3 (fuel := 8) (laidMet_of_run' 8 (by kernel_rfl) (by kernel_rfl)) (by kernel_rfl) (by kernel_rfl)

set_option maxRecDepth 100000 in
theorem deflates_lifted (os : Os) (started : os.Started) (H : Type) (enc : TypeId × Value → H) :
    ReturnsInHanded {} Tryd.checked os 7 .any (fun w args => (Rows.deflatesSpec.pre enc Tryd.prog Tryd.f7 [] false w args ∧ laidMetH Tryd.prog Rows.deflatesRow.laid w) ∧ sizedMet enc Tryd.prog Tryd.f7 (OpenSpec.ofChange Rows.deflatesSpec) false w args)
      (Rows.deflatesSpec.post enc Tryd.prog Tryd.f7 false true false false) := by
  refine returnsInHanded_of_change_and (C := Tryd.checked) (X := fun w _ => laidMetH Tryd.prog Rows.deflatesRow.laid w) (fun _ _ _ hh h => h.of_heap hh) ownD started (by kernel_rfl) Tryd.func7
    (ChangeSpec.witness_shaped (enc := enc) (C := Tryd.checked) (os := os) (X := fun w _ => laidMetH Tryd.prog Rows.deflatesRow.laid w) false (World.doorLaid Tryd.prog 400 os) #[.string ⟨#[]⟩, .int .i64 0] 8 rfl (World.shaped_of_RefB (by kernel_rfl) (by kernel_rfl)) (by kernel_rfl) (by kernel_rfl) (by kernel_rfl) (door_metD os _)) ?_
  intro W base args ds gs before hval0 hW _ _ hL _
  have hval : ∀ (j : Nat) t v, Tryd.f7.params[j]? = some t → args[j]? = some v → Value.okWide Tryd.prog W .any base t v := hval0
  have hW' := hW
  obtain ⟨p, q, hA0, hV, rfl, hfz, hnd⟩ := hW
  have hA : DataW.TrodAll enc Tryd.prog W 0 (fun _ => true) true Tryd.f7.params.toList args.toList ds p := hA0
  rw [Tryd.params7] at hA hval
  obtain ⟨v0, v1, d0, d1, p0, p1, rfl, rfl, rfl, h0, h1⟩ := trodAll_two hA
  obtain ⟨rfl, rfl⟩ := trodVars_none hV
  obtain ⟨t, rfl, rfl, rfl, hts⟩ := open_string Tryd.underlying9 (hval 0 9 v0 rfl rfl) h0
  obtain ⟨a, rfl, rfl, rfl, wa⟩ := open_int Tryd.underlying3 (hval 1 3 v1 rfl rfl) h1
  have hL' : laidMet Tryd.prog plainD W := hL
  obtain ⟨hE, hO, hG⟩ := envD_of hL'
  clear hA0 hval0
  simp only [List.append_nil] at hW'
  have e1 : Rows.deflatesSpec.fn H ([.lit (.string t.data.toList), .lit (.int .i64 a)] ++ []) = { results := [.lit (.bool true)], args := [.lit (.string t.data.toList), .lit (.int .i64 a)] } := by simp [Rows.deflatesSpec]
  refine (deflates_any t a W hE hO hG).mono fun e W' ⟨he, hw⟩ => ?_
  subst he
  refine ⟨_, rfl, _, _, _, [], [], [], hW', ?_, ?_, ?_, hw.keptD _, fun h => by cases h⟩
  · rw [e1]; exact trodAll_mk1 (shut_bool Tryd.underlying4 true)
  · rw [e1]; exact trodAll_mk2 (shut_string Tryd.underlying9 hts) (shut_int Tryd.underlying3 wa)
  · rw [e1]; rfl

theorem deflates_holds : Rows.DeflatesSaid :=
  OpenClaim.holds_of_wide 7 Tryd.f7 rfl rfl rfl rfl rfl rfl rfl ⟨rfl, rfl, rfl, rfl, rfl⟩ rfl rfl rfl rfl rfl (by kernel_rfl) Tryd.func7 (by kernel_rfl)
    (of_decide_eq_true (by kernel_rfl)) (by unfold Func.isWrapper; first | (rw [if_pos (by decide +kernel)]; kernel_rfl) | (rw [if_neg (by decide +kernel)]; exact ⟨rfl, rfl⟩))
    (fun os started H enc _ => deflates_lifted os started H enc)
end Go.Proofs.YtjjjlilflbddoaaDoor
