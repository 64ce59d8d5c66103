import Derived.Test.YtobohjjkcdhfeaaDoorSym
namespace Go.Proofs.YtobohjjkcdhfeaaDoor
open Go.RowKit

theorem symGo_ok (d : List UInt8) (c : Gz.Code) : ∀ (m n taken first shorter p v q : Nat), Gz.symGo d c m n taken first shorter p = .ok (v, q) → p < q ∧ q ≤ 8 * d.length
  | 0, _, _, _, _, _, _, _, h => by simp [Gz.symGo] at h
  | m + 1, n, taken, first, shorter, p, v, q, h => by
    unfold Gz.symGo at h
    split at h
    · split at h
      · injection h with hpp; injection hpp with h1 h2; omega
      · have := symGo_ok d c m _ _ _ _ _ v q h; omega
    · cases h
theorem sym_ok {d : List UInt8} {c : Gz.Code} {p v q : Nat} (h : Gz.sym d c p = .ok (v, q)) : p < q ∧ q ≤ 8 * d.length := symGo_ok d c _ _ _ _ _ _ _ _ h
theorem symGo_bad (d : List UInt8) (c : Gz.Code) : ∀ (m n taken first shorter p k : Nat), Gz.symGo d c m n taken first shorter p = .error k → k = 2 ∨ k = 6
  | 0, _, _, _, _, _, _, h => by simp [Gz.symGo] at h; omega
  | m + 1, n, taken, first, shorter, p, k, h => by
    unfold Gz.symGo at h
    split at h
    · split at h
      · cases h
      · exact symGo_bad d c m _ _ _ _ _ k h
    · injection h with h1; omega

theorem lengthBits_any (n : Nat) (w : World) (h : n ≤ 100000) : Calls Tryd.prog 61 #[.int .i64 n] w fun e w' => e = .returned (.int .i64 (Gz.lenBits n : Nat)) ∧ w' = w := by
  go_enter Tryd.func61, Tryd.ntmps61
  by_cases h1 : n ≤ 264
  · have h2 : decide ((n : Int) ≤ 264) = true := by simp; omega
    go_wp2
    go_ret
    refine ⟨ret_int ?_, rfl⟩
    unfold Gz.lenBits; rw [if_pos (Or.inl h1)]; rfl
  · by_cases h3 : n = 285
    · subst h3
      go_wp2
      go_ret
      exact ⟨rfl, rfl⟩
    · have h4 : ((n : Int) == 285) = false := by simp; omega
      go_wp2
      go_ret
      refine ⟨ret_int ?_, rfl⟩
      unfold Gz.lenBits; rw [if_neg (by omega)]; omega

theorem distanceBits_any (n : Nat) (w : World) (h : n ≤ 100000) : Calls Tryd.prog 65 #[.int .i64 n] w fun e w' => e = .returned (.int .i64 (Gz.distBits n : Nat)) ∧ w' = w := by
  go_enter Tryd.func65, Tryd.ntmps65
  by_cases h1 : n ≤ 3
  · go_wp2
    go_ret
    refine ⟨ret_int ?_, rfl⟩
    unfold Gz.distBits; rw [if_pos h1]; rfl
  · go_wp2
    go_ret
    refine ⟨ret_int ?_, rfl⟩
    unfold Gz.distBits; rw [if_neg h1]; omega

theorem Err.iface {sp : Nat → Addr} {w : World} {v : Value} {k n : Nat} (h : Err sp w v k n) : ∃ t p, v = .iface t (.pointer (some p)) := by
  cases h using Err.ways with
  | sent => exact ⟨_, _, rfl⟩
  | short => exact ⟨_, _, rfl⟩
  | fault => exact ⟨_, _, rfl⟩

theorem farFrom_le (v : Nat) : Gz.distFrom[v]?.getD 0 ≤ 24577 := by
  by_cases h : v < 30
  · have : ∀ v, v < 30 → Gz.distFrom[v]?.getD 0 ≤ 24577 := by decide
    exact this v h
  · rw [List.getElem?_eq_none (by simp [Gz.distFrom]; omega)]; simp

end Go.Proofs.YtobohjjkcdhfeaaDoor
