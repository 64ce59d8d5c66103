import Derived.Test.YtjjjlilflbddoaaDoorSym
namespace Go.Proofs.YtjjjlilflbddoaaDoor
open Go.RowKit

theorem lengthBits_any (n : Nat) (w : World) (h : n ≤ 100000) : Calls Tryd.prog 93 #[.int .i64 n] w fun e w' => e = .returned (.int .i64 (Gz.lenBits n : Nat)) ∧ w' = w := by
  go_enter Tryd.func93, Tryd.ntmps93
  by_cases h1 : n ≤ 264
  · have h2 : decide ((n : Int) ≤ 264) = true := by simp; omega
    go_wp2
    go_ret
    refine ⟨ret_int ?_, rfl⟩
    unfold Gz.lenBits; rw [if_pos (Or.inl h1)]; rfl
  · by_cases h3 : n = 285
    · subst h3
      go_wp2
      go_ret
      exact ⟨rfl, rfl⟩
    · have h4 : ((n : Int) == 285) = false := by simp; omega
      go_wp2
      go_ret
      refine ⟨ret_int ?_, rfl⟩
      unfold Gz.lenBits; rw [if_neg (by omega)]; omega

theorem distanceBits_any (n : Nat) (w : World) (h : n ≤ 100000) : Calls Tryd.prog 94 #[.int .i64 n] w fun e w' => e = .returned (.int .i64 (Gz.distBits n : Nat)) ∧ w' = w := by
  go_enter Tryd.func94, Tryd.ntmps94
  by_cases h1 : n ≤ 3
  · go_wp2
    go_ret
    refine ⟨ret_int ?_, rfl⟩
    unfold Gz.distBits; rw [if_pos h1]; rfl
  · go_wp2
    go_ret
    refine ⟨ret_int ?_, rfl⟩
    unfold Gz.distBits; rw [if_neg h1]; omega

theorem Err.iface {sp : Nat → Addr} {w : World} {v : Value} {k n : Nat} (h : Err sp w v k n) : ∃ t p, v = .iface t (.pointer (some p)) := by
  cases h using Err.ways with
  | sent => exact ⟨_, _, rfl⟩
  | short => exact ⟨_, _, rfl⟩
  | fault => exact ⟨_, _, rfl⟩

end Go.Proofs.YtjjjlilflbddoaaDoor
