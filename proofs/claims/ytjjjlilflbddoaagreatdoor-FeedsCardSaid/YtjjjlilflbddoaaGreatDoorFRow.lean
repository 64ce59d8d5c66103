import Derived.Test.YtjjjlilflbddoaaGreatDoorLaidI
import Derived.Test.YtjjjlilflbddoaaGreatDoorFLaw
import Derived.LaidMore
import Derived.Carry
import Derived.ChangeMaps5
import Derived.Stop.Joined
import Derived.SizedLaws
import Derived.OpenShut
import Derived.Deep.Slices
import Derived.Lib.SmallJoins
import Derived.Test.YtjjjlilflbddoaaGreatDoorTie
import Derived.Test.YtjjjlilflbddoaaGreatDoorCards
import Derived.SevenTiedAt
namespace Go.Proofs.YtjjjlilflbddoaaGreatDoor
open Go.ChangeShapes Go.WideShapes Go.ChangeAt Go.RowKit Go.ChangeMaps

theorem own : ownKnob Tryz.prog.godebug = none := by kernel_rfl

theorem Fr.kept {w w' : World} (h : Fr No w w') (may : MemPlace → Prop) : w.keptBut w' may := by
  refine ⟨h.os, h.output, fun i hi => ?_⟩
  rw [h.block i hi (no_no i)]
  cases w.heap[i]? with
  | none => rfl
  | some o => cases o <;> first | exact ⟨rfl, rfl, rfl, fun _ _ => rfl⟩ | exact .inr ⟨rfl, rfl⟩ | rfl

/-- The door's own heap meets the condition. -/
theorem door_met (os : Os) (args : Array Value) : laidMetH Tryz.prog Rows.inflatesRow.laid ((World.doorLaid Tryz.prog 400 os).forCall (fun _ _ => 0) ⟨#[], args, []⟩).memory :=
  laidMetH_of_parts3 (fuel := 8) (laidMet_of_run' 8 (by kernel_rfl) (by kernel_rfl)) (by kernel_rfl) (by kernel_rfl)

theorem cellsOp : Tryz.prog.cellsOf 38 = 4 := by kernel_rfl
theorem cells3U : Tryz.prog.cellsOf 3 = 1 := by kernel_rfl
theorem cells9U : Tryz.prog.cellsOf 9 = 1 := by kernel_rfl
theorem opFields : ∃ f0 f1 f2 f3 : Field, Tryz.prog.underlying 38 = some (.struct #[f0, f1, f2, f3]) ∧ (f0.type = 3 ∧ f0.offset = 0) ∧ (f1.type = 3 ∧ f1.offset = 1) ∧ (f2.type = 3 ∧ f2.offset = 2) ∧ f3.type = 9 ∧ f3.offset = 3 :=
  ⟨_, _, _, _, Tryz.underlying38, ⟨rfl, rfl⟩, ⟨rfl, rfl⟩, ⟨rfl, rfl⟩, rfl, rfl⟩

theorem weights_mem_all {H : Type} {P : Program} {e : TypeId} : ∀ {ds : List (DataW H)} {d : DataW H}, d ∈ ds → ∀ n ∈ d.weights P e, n ∈ DataW.weightsAll P e ds
  | d0 :: ds, d, hd, n, hn => by
    simp only [DataW.weightsAll, List.mem_append]
    rcases List.mem_cons.1 hd with rfl | hd
    · exact .inl hn
    · exact .inr (weights_mem_all hd n hn)
set_option maxRecDepth 100000 in
/-- A script that can be read as data. -/
theorem script_of {H : Type} {enc : TypeId × Value → H} {W : World} {fuel len cap : Nat} {a0 : Option Addr} {x : DataW H × List MemPlace}
    (hf : DataW.trod enc Tryz.prog W 0 (fun _ => true) true fuel 29 (Value.slice a0 len cap).cells.toList = some x) (hsz : (DataW.weights Tryz.prog 29 x.1).all (· ≤ reachBytes) = true) : ScriptF W (.slice a0 len cap) len := by
  rcases Deep.open_slice Tryz.underlying29 hf with ⟨hcs, _⟩ | ⟨a, len', cap', m, n, D, Pl, hcs, _, hl, hm, hz, hx, hel⟩
  · simp [Value.cells] at hcs
    obtain ⟨rfl, rfl, rfl⟩ := hcs
    exact ⟨none, 0, rfl, fun j hj => by omega⟩
  · simp [Value.cells] at hcs
    obtain ⟨rfl, rfl, rfl⟩ := hcs
    simp only [if_true] at hz
    refine ⟨some a, cap, rfl, fun j hj => ?_⟩
    obtain ⟨cs, hcells, htr⟩ := hel j (by omega)
    rw [cellsOp] at hcells
    obtain ⟨f0, f1, f2, f3, hu, ⟨u0, o0⟩, ⟨u1, o1⟩, ⟨u2, o2⟩, u3, o3⟩ := opFields
    obtain ⟨y0, y1, y2, y3, n', hD, hlen, t0, t1, t2, t3⟩ := Joins.trod_struct4 hu htr
    rw [cellsOp] at hlen
    rw [u0, o0, cells3U] at t0
    rw [u1, o1, cells3U] at t1
    rw [u2, o2, cells3U] at t2
    rw [u3, o3, cells9U] at t3
    obtain ⟨c0, c1, c2, c3, rfl⟩ : ∃ c0 c1 c2 c3, cs = [c0, c1, c2, c3] := by
      match cs, hlen with
      | [c0, c1, c2, c3], _ => exact ⟨c0, c1, c2, c3, rfl⟩
    obtain ⟨kd, e0, _, _⟩ := DataW.trod_int Tryz.underlying3 t0
    obtain ⟨wd, e1, _, _⟩ := DataW.trod_int Tryz.underlying3 t1
    obtain ⟨nn, e2, _, _⟩ := DataW.trod_int Tryz.underlying3 t2
    obtain ⟨t, e3, hy3, _⟩ := DataW.trod_string Tryz.underlying9 t3
    simp at e0 e1 e2 e3
    subst e0 e1 e2 e3
    obtain ⟨_, _, hc⟩ := World.cells?_some hcells
    obtain ⟨b, off, spot⟩ := a
    have h0 := hc 0 (by omega)
    have h1 := hc 1 (by omega)
    have h2 := hc 2 (by omega)
    have h3 := hc 3 (by omega)
    have hsp : spot = none := by
      have hj0 := hel 0 (by omega)
      obtain ⟨cs, hcells0, _⟩ := hj0
      rw [cellsOp] at hcells0
      obtain ⟨_, hl0, hc0⟩ := World.cells?_some hcells0
      have h5 := hc0 0 (by omega)
      have h6 : cs[0]? = some (cs[0]'(by omega)) := List.getElem?_eq_getElem _
      have h7 := World.cell?_spot (h5.trans h6)
      simpa [Addr.add] using h7
    subst hsp
    rw [add_plain, add_plain] at h0 h1 h2 h3
    have hlt : b < W.heap.size := by have h8 := World.cells?_block hcells (by omega); rw [add_plain] at h8; exact h8
    have hts : t.size ≤ reachBytes := by
      have hDj : D j = .agg [y0.1, y1.1, y2.1, y3.1] := congrArg Prod.fst hD
      have hm3 : t.data.toList.length ∈ DataW.weights Tryz.prog 38 (D j) := by
        rw [hDj, hy3]
        simp only [DataW.weights, hu, List.map_cons, List.map_nil, DataW.weightsEach, List.mem_append]
        simp
      have hin : t.data.toList.length ∈ DataW.weights Tryz.prog 29 x.1 := by
        rw [hx]
        simp only [DataW.weights, Tryz.underlying29]
        refine List.mem_cons_of_mem _ (List.mem_append.2 (.inl (weights_mem_all (d := D j) (List.mem_map.2 ⟨j, List.mem_range.2 (by omega), rfl⟩) _ hm3)))
      have := List.all_eq_true.1 hsz _ hin
      simpa using this
    exact ⟨b, off, kd, wd, nn, t, rfl, hlt, Nat.lt_of_le_of_lt hts (by decide), h0, h1, h2, h3⟩
theorem laidOutU : laidOutB Tryz.prog = true := by kernel_rfl
theorem bytesOp : Tryz.prog.bytesOf 38 = 40 := by kernel_rfl

set_option maxRecDepth 100000 in
theorem feeds_lifted (os : Os) (started : os.Started) (H : Type) (enc : TypeId × Value → H) :
    ReturnsInHanded {} Tryz.checked os 4 .any (fun w args => (Rows.feedsSpec.pre enc Tryz.prog Tryz.f4 [] false w args ∧ laidMetH Tryz.prog Rows.inflatesRow.laid w) ∧ sizedMet enc Tryz.prog Tryz.f4 (OpenSpec.ofChange Rows.feedsSpec) false w args)
      (Rows.feedsSpec.post enc Tryz.prog Tryz.f4 false true false false) := by
  refine returnsInHanded_of_change_and (C := Tryz.checked) (X := fun w _ => laidMetH Tryz.prog Rows.inflatesRow.laid w) (fun _ _ _ hh h => h.of_heap hh) own started (by kernel_rfl) Tryz.func4
    (ChangeSpec.witness_shaped (enc := enc) (C := Tryz.checked) (os := os) (X := fun w _ => laidMetH Tryz.prog Rows.inflatesRow.laid w) false (World.doorLaid Tryz.prog 400 os) #[.int .i64 0, .int .i64 0, .slice none 0 0] 8 rfl (World.shaped_of_RefB (by kernel_rfl) (by kernel_rfl)) (by kernel_rfl) (by kernel_rfl) (by kernel_rfl) (door_met os _)) ?_
  intro W base args ds gs before hval0 hW _ hsz0 hL _
  have hval : ∀ (j : Nat) t v, Tryz.f4.params[j]? = some t → args[j]? = some v → Value.okWide Tryz.prog W .any base t v := hval0
  have hW' := hW
  obtain ⟨p, q, hA0, hV, rfl, hfz, hnd⟩ := hW
  have hA : DataW.TrodAll enc Tryz.prog W 0 (fun _ => true) true Tryz.f4.params.toList args.toList ds p := hA0
  rw [Tryz.params4] at hA hval
  obtain ⟨v0, v1, v2, d0, d1, d2, p0, p1, p2, rfl, rfl, rfl, h0, h1, h2⟩ := trodAll_three hA
  obtain ⟨rfl, rfl⟩ := trodVars_none hV
  obtain ⟨a, rfl, rfl, rfl, wa⟩ := open_int Tryz.underlying3 (hval 0 3 v0 rfl rfl) h0
  obtain ⟨b, rfl, rfl, rfl, wb⟩ := open_int Tryz.underlying3 (hval 1 3 v1 rfl rfl) h1
  obtain ⟨a0, len, cap, rfl⟩ := okWide_slice Tryz.underlying29 (hval 2 29 v2 rfl rfl)
  have hsz : (DataW.weightsEach Tryz.prog (Tryz.f4.params.toList ++ Rows.feedsSpec.plain.varTypes Tryz.prog) ([.lit (.int .i64 a), .lit (.int .i64 b), d2] ++ [])).all (· ≤ reachBytes) = true := hsz0
  obtain ⟨sp, hE, hB, hP, hO, _⟩ := env_of hL
  have h2k := h2
  obtain ⟨fuel, hf⟩ := h2
  clear hA0 hval0
  simp only [List.append_nil] at hW'
  have hlt : ∀ x ∈ p2, x.block < W.heap.size := fun x hx => hW'.lt x (by simpa using hx)
  have hscr := script_of hf (List.all_eq_true.2 (fun n hn => List.all_eq_true.1 hsz n (DataW.weights_mem_each (j := 2) (t := 29) rfl rfl n hn)))
  have hlen : len ≤ 4398046511104 := by
    rcases Deep.open_slice Tryz.underlying29 hf with ⟨hcs, _⟩ | ⟨a', len', cap', m, n, D, Pl, hcs, _, hl, hm, hz, hx, hel⟩
    · simp [Value.cells] at hcs
      omega
    · simp [Value.cells] at hcs
      obtain ⟨rfl, rfl, rfl⟩ := hcs
      simp only [Prod.mk.injEq] at hx
      obtain ⟨rfl, _⟩ := hx
      have h9 := sized_slice hsz (j := 2) (t := 29) (e := 38) rfl rfl Tryz.underlying29
      rw [bytesOp] at h9
      simp only [List.length_map, List.length_range, reachBytes] at h9
      omega
  have e1 : Rows.feedsSpec.fn H ([.lit (.int .i64 a), .lit (.int .i64 b), d2] ++ []) = { results := [.lit (.bool true)], args := [.lit (.int .i64 a), .lit (.int .i64 b), d2] } := by simp [Rows.feedsSpec]
  refine (feedsLaw_any sp a b _ len W hscr hlen hE hB hP hO).mono fun e W' ⟨he, hw⟩ => ?_
  subst he
  have hargs : DataW.Trod enc Tryz.prog W' 0 (fun b => decide (b < W.heap.size)) true 29 (.slice a0 len cap) d2 p2 :=
    Below.trod laidOutU (by kernel_rfl) (of_decide_eq_true (by kernel_rfl)) h2k (hw.below (Nat.le_refl _) (fun _ h => h.elim)) hlt
  refine ⟨_, rfl, _, _, _, [], [] ++ ([] ++ p2), [], hW', ?_, ?_, ?_, hw.kept _, fun h => by cases h⟩
  · rw [e1]; exact trodAll_mk1 (shut_bool Tryz.underlying4 true)
  · rw [e1]; exact trodAll_mk3 (shut_int Tryz.underlying3 wa) (shut_int Tryz.underlying3 wb) hargs
  · rw [e1]; rfl

theorem feeds_holds : Rows.FeedsSaid :=
  OpenClaim.holds_of_wide 4 Tryz.f4 rfl rfl rfl rfl rfl rfl rfl ⟨rfl, rfl, rfl, rfl, rfl⟩ rfl rfl rfl rfl rfl (by kernel_rfl) Tryz.func4 (by kernel_rfl)
    (of_decide_eq_true (by kernel_rfl)) (by unfold Func.isWrapper; first | (rw [if_pos (by decide +kernel)]; kernel_rfl) | (rw [if_neg (by decide +kernel)]; exact ⟨rfl, rfl⟩))
    (fun os started H enc _ => feeds_lifted os started H enc)
end Go.Proofs.YtjjjlilflbddoaaGreatDoor
namespace Go.Proofs.YtjjjlilflbddoaaGreatDoor
open Go

theorem feeds_card : Rows.FeedsCardSaid :=
  Claim7.holds_tied_plain_at .later [] _ _ _ _
    feeds_holds (fun _ h => by cases h) (by kernel_rfl) (fun _ h => by cases h) feeds_row_tie rfl ⟨rfl, rfl⟩ (by kernel_rfl) rfl
    (fun f fn hf hfn => by
      obtain rfl : f = 4 := Option.some.inj ((show Tryz.prog.funcNamed "gunz/gunzlaw.Feeds" = some 4 by kernel_rfl).symm.trans hf) |>.symm
      obtain rfl : fn = Tryz.f4 := (Option.some.inj (Tryz.func4.symm.trans hfn)).symm
      exact ⟨by kernel_rfl, fun j t ht => by
        rw [Tryz.params4] at ht
        have h3 : t = 3 ∨ t = 29 := by
          rcases j with _ | _ | _ | j
          · left; simpa using ht.symm
          · left; simpa using ht.symm
          · right; simpa using ht.symm
          · simp at ht
        rcases h3 with rfl | rfl
        · exact (show Tryz.prog.wantsStandIn 3 = false by kernel_rfl)
        · exact (show Tryz.prog.wantsStandIn 29 = false by kernel_rfl)⟩)
    (by kernel_rfl)
#print axioms feeds_card
end Go.Proofs.YtjjjlilflbddoaaGreatDoor
