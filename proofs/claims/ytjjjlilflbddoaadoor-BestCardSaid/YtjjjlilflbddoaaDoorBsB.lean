import Derived.Test.YtjjjlilflbddoaaDoorBsA
import Derived.Test.YtjjjlilflbddoaaDoorGPkO
import Derived.Test.YtjjjlilflbddoaaDoorGRTold
/-
  The document's own costs.
-/
namespace Go.Proofs.YtjjjlilflbddoaaDoor
open Go.RowKit Pm

/-- All that come have a code. -/
def Cov (n : Nat) (c l : Nat → Nat) : Prop := ∀ i, i < n → 0 < c i → 0 < l i
theorem cost_succ (n : Nat) (c l : Nat → Nat) : Pk.cost (n + 1) c l = Pk.cost n c l + c n * l n := by
  unfold Pk.cost
  rw [List.range_succ, sm_app, sm_cons, sm_nil, Nat.add_zero]
theorem cost_le (c l : Nat → Nat) (hc : ∀ i, c i ≤ 3000) (hl : ∀ i, l i ≤ 15) : ∀ n, Pk.cost n c l ≤ 45000 * n
  | 0 => Nat.le_refl _
  | n + 1 => by
    have := cost_le c l hc hl n
    have h : c n * l n ≤ 3000 * 15 := Nat.mul_le_mul (hc n) (hl n)
    rw [cost_succ]
    omega
/-- What Cost comes to. -/
def CostP (n : Nat) (c l : Nat → Nat) (w : World) (e : Ending) (w' : World) : Prop := ((Cov n c l ∧ e = .returned (.tuple #[.int .i64 (Pk.cost n c l : Nat), .bool true])) ∨ (¬ Cov n c l ∧ e = .returned (.tuple #[.int .i64 0, .bool false]))) ∧ Fr No w w'

set_option maxRecDepth 100000 in
set_option maxHeartbeats 6400000 in
theorem rcost_any (bc bl : Nat) (vc vl : Value) (c l : List Nat) (w : World) (hc : Ins w bc vc c) (hl : Ins w bl vl l) (hle : c.length ≤ l.length) (hn : c.length ≤ 400) (h3 : ∀ i, cf c i ≤ 3000) (h15 : ∀ i, cf l i ≤ 15) :
    Calls Tryd.prog 28 #[vc, vl] w (CostP c.length (cf c) (cf l) w) := by
  obtain ⟨a1, o1, c1, rfl, hc1⟩ := hc
  obtain ⟨a2, o2, c2, rfl, hc2⟩ := hl
  have HCL := hide (cost_le (cf c) (cf l) h3 h15)
  have H1 := hide hc1
  have H2 := hide hc2
  have H3 := hide h3
  have H15 := hide h15
  obtain ⟨n, hne⟩ : ∃ n, n = c.length := ⟨_, rfl⟩
  obtain ⟨m, hme⟩ : ∃ m, m = l.length := ⟨_, rfl⟩
  rw [← hne] at hn hle ⊢
  rw [← hme] at hle ⊢
  have HNE := hide hne
  have HME := hide hme
  clear hc1 hc2 hne hme h3 h15
  go_enter Tryd.func28, Tryd.ntmps28
  go_wp2_with fail
  go_loopw [6, 7] (fun nv iv wr => ∃ k : Nat, k ≤ n ∧ iv = .int .i64 k ∧ nv = .int .i64 (Pk.cost k (cf c) (cf l) : Nat) ∧ Hid (Cov k (cf c) (cf l)) ∧ Hid (Fr No w wr)) (fun _ iv _ => n - (intOf iv).toNat)
  case atStart => exact ⟨0, Nat.zero_le _, rfl, rfl, fun i hi => by omega, Fr.refl _ _⟩
  case round =>
    obtain ⟨k, hk, rfl, rfl, HV, HF⟩ := hrel
    by_cases hlt : k < n
    · have hki : (k : Int) < (n : Int) := by omega
      have hkm : (k : Int) < (m : Int) := by omega
      obtain ⟨rfl, hb1, x1⟩ := H1.out k (by have := HNE.out; omega)
      obtain ⟨rfl, hb2, x2⟩ := H2.out k (by have := HME.out; omega)
      have x1 := (HF.out.cell (p := ⟨bc, o1 + k, none⟩) hb1 (no_no _)).trans x1
      have x2 := (HF.out.cell (p := ⟨bl, o2 + k, none⟩) hb2 (no_no _)).trans x2
      have q3 := H3.out k
      have q15 := H15.out k
      have HS := hide (cost_succ k (cf c) (cf l))
      have hcl := HCL.out k
      have HVS : Hid (∀ j, (0 < cf c k → 0 < cf l k) → j = k + 1 → Cov j (cf c) (cf l)) := fun j h e i hi hp => by
        subst e
        by_cases he : i = k
        · subst he; exact h hp
        · exact HV.out i (by omega) hp
      have HVN : Hid (0 < cf c k → ¬ 0 < cf l k → ¬ Cov n (cf c) (cf l)) := fun h1 h2 h => h2 (h k hlt h1)
      have hmul : cf c k * cf l k ≤ 3000 * 15 := Nat.mul_le_mul q3 q15
      have e1 : c.getD k 0 = cf c k := rfl
      have e2 : l.getD k 0 = cf l k := rfl
      rw [e1] at x1
      rw [e2] at x2
      obtain ⟨cx, hcx⟩ : ∃ cx, cx = cf c k := ⟨_, rfl⟩
      obtain ⟨lx, hlx⟩ : ∃ lx, lx = cf l k := ⟨_, rfl⟩
      obtain ⟨q, hq⟩ : ∃ q, q = Pk.cost k (cf c) (cf l) := ⟨_, rfl⟩
      obtain ⟨r, hr⟩ : ∃ r, r = cf c k * cf l k := ⟨_, rfl⟩
      have hri : (cx : Int) * (lx : Int) = (r : Int) := by rw [hr, hcx, hlx]; push_cast; rfl
      rw [← hr] at HS hmul
      rw [← hcx] at x1 q3 HVS HVN
      rw [← hlx] at x2 q15 HVS HVN
      rw [← hq] at HS hcl ⊢
      have wr1 : IntKind.i64.wrap (r : Int) = r := wraps_i64 _ (by omega) (by omega)
      clear e1 e2 hcx hlx hr hq
      by_cases hc0 : cx = 0
      · have hc0i : ¬ (0 : Int) < (cx : Int) := by omega
        have HC0 := hide hc0
        clear hc0
        go_upto_region 7 with fail
        go_quiet (fail)
        go_wp2_with fail
        refine ⟨⟨k + 1, by omega, by go_num, by rw [HS.out]; go_num, HVS.out _ (fun h => by have := HC0.out; omega) rfl, HF.out.drewN _⟩, by simp [intOf]; omega⟩
      · have hc0i : (0 : Int) < (cx : Int) := by omega
        by_cases hl0 : lx = 0
        · subst hl0
          go_wp2_with fail
          go_ret2
          exact ⟨Or.inr ⟨HVN.out (by omega) (by omega), rfl⟩, HF.out⟩
        · have hl0i : ((lx : Int) == 0) = false := by rw [beq_eq_false_iff_ne]; omega
          have HL0 := hide hl0
          clear hl0
          go_upto_region 7 with fail
          go_quiet (fail)
          go_wp2_with fail
          refine ⟨⟨k + 1, by omega, by go_num, by rw [HS.out]; go_num, HVS.out _ (fun _ => by have := HL0.out; omega) rfl, HF.out.drewN _⟩, by simp [intOf]; omega⟩
    · have hke : k = n := by omega
      subst hke
      have hki : ¬ (k : Int) < (k : Int) := by omega
      go_wp2_with fail
      go_ret2
      exact ⟨Or.inl ⟨HV.out, rfl⟩, HF.out⟩
end Go.Proofs.YtjjjlilflbddoaaDoor
