import Derived.Test.YtjjjlilflbddoaaGreatDoorShare
namespace Go.Proofs.YtjjjlilflbddoaaGreatDoor
open Go.RowKit

theorem Bys.take {w : World} {b off : Nat} {l : List Nat} (h : Bys w b off l) (k : Nat) : Bys w b off (l.take k) :=
  ⟨h.1, fun i hi => by
    have h1 : i < l.length := by simp at hi; omega
    have h2 : i < k := by simp at hi; omega
    have e : (l.take k).getD i 0 = l.getD i 0 := by simp [List.getD, List.getElem?_take_of_lt h2]
    rw [e]; exact h.2 i h1⟩
theorem Bys.drop {w : World} {b off : Nat} {l : List Nat} (h : Bys w b off l) (k : Nat) : Bys w b (off + k) (l.drop k) :=
  ⟨h.1, fun i hi => by
    have h1 : k + i < l.length := by simp at hi; omega
    have e : (l.drop k).getD i 0 = l.getD (k + i) 0 := by simp [List.getD]
    rw [e, Nat.add_assoc]; exact h.2 (k + i) h1⟩
theorem complete_at (b off n cap : Nat) (l : List Nat) (w : World) (hb : Bys w b off l) (hl : Lens l) (hn : n ≤ 400) (he : n = l.length) :
    Calls Tryz.prog 134 #[.slice (some ⟨b, off, none⟩) n cap] w fun e w' => e = .returned (.bool (Gz.complete l)) ∧ w' = w := by
  subst he; exact complete_any b off cap l w hb hl hn
theorem few_at (b off n cap : Nat) (l : List Nat) (w : World) (hb : Bys w b off l) (hl : Lens l) (hn : n ≤ 400) (he : n = l.length) :
    Calls Tryz.prog 136 #[.slice (some ⟨b, off, none⟩) n cap] w fun e w' => e = .returned (.bool (decide (l.sum ≤ 1))) ∧ w' = w := by
  subst he; exact fewDistances_any b off cap l w hb hl hn

set_option maxRecDepth 100000 in
set_option maxHeartbeats 1600000 in
theorem check_any (sp : Nat → Addr) (lb : Nat) (l : List Nat) (w : World) (hE : Env sp w) (hb : Bys w lb 0 l) (hl : Lens l) (hn : l.length = 320) :
    Calls Tryz.prog 116 #[.pointer (some ⟨lb, 0, none⟩)] w fun e w' => Fr No w w' ∧
      ((Gz.check l = true ∧ e = .returned .nilIface) ∨ (Gz.check l = false ∧ ∃ v n, e = .returned v ∧ Err sp w' v 5 n)) := by
  have hsent : w.cell? ⟨2, 0, none⟩ = some (.iface 248 (.pointer (some (sp 5)))) := hE.err 5 (by omega) (by omega)
  have h256 : w.cell? ⟨lb, 256, none⟩ = some (.int .u8 (l.getD 256 0 : Nat)) := by have := hb.2 256 (by omega); simpa using this
  have hb1 := hb.take 288
  have hb2 := hb.drop 288
  have hnot : ∀ (x : Bool) (w : World), (Op.unary .not (.bool x)).run Tryz.prog w = .ok (.bool (!x)) w := fun _ _ => rfl
  have hdec : Gz.check l = ((l.getD 256 0 != 0) && Gz.complete (l.take 288) && (Gz.complete (l.drop 288) || decide ((l.drop 288).sum ≤ 1))) := rfl
  rw [hdec]
  have h15 := hl 256 (by omega)
  generalize l.getD 256 0 = z at *
  obtain ⟨c1, hc1⟩ : ∃ c1, c1 = Gz.complete (l.take 288) := ⟨_, rfl⟩
  obtain ⟨c2, hc2⟩ : ∃ c2, c2 = Gz.complete (l.drop 288) := ⟨_, rfl⟩
  obtain ⟨c3, hc3⟩ : ∃ c3, c3 = decide ((l.drop 288).sum ≤ 1) := ⟨_, rfl⟩
  rw [← hc1, ← hc2, ← hc3]
  have H1 := hide hc1
  have H2 := hide hc2
  have H3 := hide hc3
  clear hc1 hc2 hc3 hdec
  have L1 := hl.take 288
  have L2 := hl.drop 288
  by_cases hz : z = 0
  · subst hz
    go_enter Tryz.func116, Tryz.ntmps116
    go_wp2
    go_quiet (fail)
    go_wp2
    go_ret
    exact ⟨((Fr.refl _ _).drewN _).alloc _, Or.inr ⟨rfl, _, 1, rfl, .fault _ _ _ _ _ (alloc_at (World.drewN w _) _) (.sent 5 (by omega) (by omega))⟩⟩
  · have hz' : ((z : Int) == 0) = false := by simp; omega
    have hz2 : (z != 0) = true := by simp; omega
    rw [hz2]
    clear hz2
    obtain rfl | rfl : c1 = false ∨ c1 = true := by cases c1 <;> simp
    · go_enter Tryz.func116, Tryz.ntmps116
      go_wp2
      go_quiet (fail)
      go_wp2_with fail
      refine (complete_at lb 0 288 320 (l.take 288) _ (by exact hb1) L1 (by omega) (by simp; omega)).mono ?_
      rintro e w1 ⟨rfl, rfl⟩
      rw [← H1.out]
      go_wp2
      go_ret
      exact ⟨((Fr.refl _ _).drewN _).alloc _, Or.inr ⟨by simp, _, 1, rfl, .fault _ _ _ _ _ (alloc_at (World.drewN w _) _) (.sent 5 (by omega) (by omega))⟩⟩
    · obtain rfl | rfl : c2 = true ∨ c2 = false := by cases c2 <;> simp
      · go_enter Tryz.func116, Tryz.ntmps116
        go_wp2
        go_quiet (fail)
        go_wp2_with fail
        refine (complete_at lb 0 288 320 (l.take 288) _ (by exact hb1) L1 (by omega) (by simp; omega)).mono ?_
        rintro e w1 ⟨rfl, rfl⟩
        rw [← H1.out]
        go_wp2_with fail
        refine (complete_at lb 288 32 32 (l.drop 288) _ (by exact hb2) L2 (by omega) (by simp; omega)).mono ?_
        rintro e w1 ⟨rfl, rfl⟩
        rw [← H2.out]
        go_wp2
        go_ret
        exact ⟨(Fr.refl _ _).drewN _, Or.inl ⟨by simp, rfl⟩⟩
      · obtain rfl | rfl : c3 = true ∨ c3 = false := by cases c3 <;> simp
        · go_enter Tryz.func116, Tryz.ntmps116
          go_wp2
          go_quiet (fail)
          go_wp2_with fail
          refine (complete_at lb 0 288 320 (l.take 288) _ (by exact hb1) L1 (by omega) (by simp; omega)).mono ?_
          rintro e w1 ⟨rfl, rfl⟩
          rw [← H1.out]
          go_wp2_with fail
          refine (complete_at lb 288 32 32 (l.drop 288) _ (by exact hb2) L2 (by omega) (by simp; omega)).mono ?_
          rintro e w1 ⟨rfl, rfl⟩
          rw [← H2.out]
          go_wp2_with fail
          refine (few_at lb 288 32 32 (l.drop 288) _ (by exact hb2) L2 (by omega) (by simp; omega)).mono ?_
          rintro e w1 ⟨rfl, rfl⟩
          rw [← H3.out]
          go_wp2
          go_ret
          exact ⟨(Fr.refl _ _).drewN _, Or.inl ⟨by simp, rfl⟩⟩
        · go_enter Tryz.func116, Tryz.ntmps116
          go_wp2
          go_quiet (fail)
          go_wp2_with fail
          refine (complete_at lb 0 288 320 (l.take 288) _ (by exact hb1) L1 (by omega) (by simp; omega)).mono ?_
          rintro e w1 ⟨rfl, rfl⟩
          rw [← H1.out]
          go_wp2_with fail
          refine (complete_at lb 288 32 32 (l.drop 288) _ (by exact hb2) L2 (by omega) (by simp; omega)).mono ?_
          rintro e w1 ⟨rfl, rfl⟩
          rw [← H2.out]
          go_wp2_with fail
          refine (few_at lb 288 32 32 (l.drop 288) _ (by exact hb2) L2 (by omega) (by simp; omega)).mono ?_
          rintro e w1 ⟨rfl, rfl⟩
          rw [← H3.out]
          go_wp2
          go_ret
          exact ⟨((Fr.refl _ _).drewN _).alloc _, Or.inr ⟨by simp, _, 1, rfl, .fault _ _ _ _ _ (alloc_at (World.drewN w _) _) (.sent 5 (by omega) (by omega))⟩⟩
end Go.Proofs.YtjjjlilflbddoaaGreatDoor
