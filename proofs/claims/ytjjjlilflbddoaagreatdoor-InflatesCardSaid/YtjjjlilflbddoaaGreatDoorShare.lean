import Derived.Test.YtjjjlilflbddoaaGreatDoorLive
namespace Go.Proofs.YtjjjlilflbddoaaGreatDoor
open Go.RowKit

/-- Lengths as they lie in memory. -/
def Bys (w : World) (b off : Nat) (l : List Nat) : Prop := b < w.heap.size ∧ ∀ i, i < l.length → w.cell? ⟨b, off + i, none⟩ = some (.int .u8 (l.getD i 0 : Nat))
theorem Bys.fr {S : Nat → Prop} {w w' : World} {b off : Nat} {l : List Nat} (h : Bys w b off l) (f : Fr S w w') (hs : ¬ S b) : Bys w' b off l :=
  ⟨Nat.lt_of_lt_of_le h.1 f.size, fun i hi => (f.cell (p := ⟨b, off + i, none⟩) h.1 hs).trans (h.2 i hi)⟩

theorem wrap_share (sk n k : Nat) (h : sk ≤ k * 32768) (hk : k ≤ 400) : wrap64 ((sk : Int) + 32768 / 2 ^ n) = ((sk + 32768 / 2 ^ n : Nat) : Int) := by
  have e1 : ((32768 : Int) / 2 ^ n) = ((32768 / 2 ^ n : Nat) : Int) := by simp
  have hdl : 32768 / 2 ^ n ≤ 32768 := Nat.div_le_self _ _
  rw [e1]
  generalize 32768 / 2 ^ n = x at *
  rw [wrap64_id _ (by omega) (by omega)]
  omega

set_option maxRecDepth 100000 in
set_option maxHeartbeats 800000 in
theorem share_any (b off cap : Nat) (l : List Nat) (w : World) (hb : Bys w b off l) (hl : Lens l) (hn : l.length ≤ 400) :
    Calls Tryz.prog 148 #[.slice (some ⟨b, off, none⟩) l.length cap] w fun e w' => e = .returned (.int .i64 (Gz.share l : Nat)) ∧ w' = w := by
  go_enter Tryz.func148, Tryz.ntmps148
  go_wp2
  go_loop [3, 8] (fun sm i => ∃ k : Nat, k ≤ l.length ∧ i = .int .i64 k ∧ sm = .int .i64 (Gz.share (l.take k) : Nat)) (fun _ i => l.length - (intOf i).toNat)
  case atStart => exact ⟨0, Nat.zero_le _, rfl, rfl⟩
  case round =>
    obtain ⟨k, hk, rfl, rfl⟩ := hrel
    by_cases hlt : k < l.length
    · have hc := hb.2 k hlt
      have h15 := hl k hlt
      have hsl := share_le l k
      have HS : Hid (Gz.share (l.take (k + 1)) = Gz.share (l.take k) + shareOf (l.getD k 0)) := share_take l k hlt
      generalize l.getD k 0 = n at *
      generalize hm : l.length = m at *
      generalize Gz.share (l.take k) = sk at *
      have hdl : 32768 / 2 ^ n ≤ 32768 := Nat.div_le_self _ _
      by_cases hn0 : 0 < n
      · go_wp2
        go_round
        case rel => refine ⟨k + 1, by omega, by go_num, congrArg (Value.int .i64) ?_⟩; rw [HS.out]; unfold shareOf; rw [if_pos hn0]; exact wrap_share sk n k hsl (by omega)
        case measure => simp [intOf]; omega
      · go_wp2
        go_round
        case rel => refine ⟨k + 1, by omega, by go_num, congrArg (Value.int .i64) ?_⟩; rw [HS.out]; unfold shareOf; rw [if_neg hn0]; simp
        case measure => simp [intOf]; omega
    · go_wp2
      go_ret
      exact ⟨ret_int (by rw [List.take_of_length_le (by omega)]), rfl⟩

theorem complete_any (b off cap : Nat) (l : List Nat) (w : World) (hb : Bys w b off l) (hl : Lens l) (hn : l.length ≤ 400) :
    Calls Tryz.prog 134 #[.slice (some ⟨b, off, none⟩) l.length cap] w fun e w' => e = .returned (.bool (Gz.complete l)) ∧ w' = w := by
  have hsl := share_le l l.length
  rw [List.take_length] at hsl
  go_enter Tryz.func134, Tryz.ntmps134
  go_wp2_with (go_at_call 148; refine (share_any b off cap l _ hb hl hn).mono ?_; rintro e w' ⟨rfl, rfl⟩)
  go_ret
  refine ⟨ret_one (congrArg Value.bool ?_), rfl⟩
  unfold Gz.complete
  generalize Gz.share l = x
  rw [Bool.eq_iff_iff]; simp; omega

set_option maxRecDepth 100000 in
set_option maxHeartbeats 800000 in
theorem fewDistances_any (b off cap : Nat) (l : List Nat) (w : World) (hb : Bys w b off l) (hl : Lens l) (hn : l.length ≤ 400) :
    Calls Tryz.prog 136 #[.slice (some ⟨b, off, none⟩) l.length cap] w fun e w' => e = .returned (.bool (decide (l.sum ≤ 1))) ∧ w' = w := by
  go_enter Tryz.func136, Tryz.ntmps136
  go_wp2
  go_loop [3, 8] (fun sm i => ∃ k : Nat, k ≤ l.length ∧ i = .int .i64 k ∧ sm = .int .i64 ((l.take k).sum : Nat)) (fun _ i => l.length - (intOf i).toNat)
  case atStart => exact ⟨0, Nat.zero_le _, rfl, rfl⟩
  case round =>
    obtain ⟨k, hk, rfl, rfl⟩ := hrel
    by_cases hlt : k < l.length
    · have hc := hb.2 k hlt
      have h15 := hl k hlt
      have hsl := sum_take_15 l hl k hk
      have HS : Hid ((l.take (k + 1)).sum = (l.take k).sum + l.getD k 0) := sum_take_succ l k hlt
      generalize l.getD k 0 = n at *
      generalize hm : l.length = m at *
      generalize (l.take k).sum = sk at *
      go_wp2
      go_round
      case rel => refine ⟨k + 1, by omega, by go_num, congrArg (Value.int .i64) ?_⟩; rw [HS.out]; omega
      case measure => simp [intOf]; omega
    · go_wp2
      go_ret
      refine ⟨ret_one (congrArg Value.bool ?_), rfl⟩
      rw [List.take_of_length_le (by omega)]
      rw [Bool.eq_iff_iff]; simp; omega
end Go.Proofs.YtjjjlilflbddoaaGreatDoor
