import Derived.Test.YtjjjlilflbddoaaGreatDoorQDist
namespace Go.Proofs.YtjjjlilflbddoaaGreatDoor
open Go.RowKit

def runBits (v : Nat) : Nat := if v = 16 then 2 else if v = 17 then 3 else if v = 18 then 7 else 0

def runLeast (v : Nat) : Nat := if v = 16 then 3 else if v = 17 then 3 else if v = 18 then 11 else 1

theorem behind_any (v : Nat) (w : World) (hv : v ≤ 18) :
    Calls Tryz.prog 80 #[.int .i64 v] w fun e w' => e = .returned (.tuple #[.int .i64 (runBits v : Nat), .int .i64 (runLeast v : Nat)]) ∧ w' = w := by
  have hk : v = 16 ∨ v = 17 ∨ v = 18 ∨ v < 16 := by omega
  rcases hk with rfl | rfl | rfl | hk
  · go_enter Tryz.func80, Tryz.ntmps80
    go_wp2
    go_ret2
    exact ⟨rfl, rfl⟩
  · go_enter Tryz.func80, Tryz.ntmps80
    go_wp2
    go_ret2
    exact ⟨rfl, rfl⟩
  · go_enter Tryz.func80, Tryz.ntmps80
    go_wp2
    go_ret2
    exact ⟨rfl, rfl⟩
  · have e16 : ((v : Int) == 16) = false := by simp; omega
    have e17 : ((v : Int) == 17) = false := by simp; omega
    have e18 : ((v : Int) == 18) = false := by simp; omega
    go_enter Tryz.func80, Tryz.ntmps80
    go_wp2
    go_ret2
    have h1 : runBits v = 0 := by unfold runBits; rw [if_neg (by omega), if_neg (by omega), if_neg (by omega)]
    have h2 : runLeast v = 1 := by unfold runLeast; rw [if_neg (by omega), if_neg (by omega), if_neg (by omega)]
    rw [h1, h2]
    exact ⟨rfl, rfl⟩

theorem number_zero (rb : Nat) (w : World) :
    Calls Tryz.prog 110 #[.pointer (some ⟨rb, 0, none⟩), .int .i64 0] w fun e w' => e = .returned (.int .i64 0) ∧ w' = w := by
  go_enter Tryz.func110, Tryz.ntmps110
  go_wp2
  go_loopw [5, 8] (fun sum i wr => i = .int .i64 0 ∧ sum = .int .i64 0 ∧ wr = w) (fun _ _ _ => 0)
  case atStart => exact ⟨rfl, rfl, rfl⟩
  case round =>
    obtain ⟨rfl, rfl, rfl⟩ := hrel
    go_wp2
    go_ret
    exact ⟨rfl, rfl⟩

set_option maxHeartbeats 800000 in
theorem run_any (sp : Nat → Addr) (rb db v : Nat) (s : RS) (d : List UInt8) (w : World) (hn : d.length ≤ 4000) (hdb : db ≠ rb)
    (hr : Rd w rb s) (hd : Dat w db s.dv d) (hv : v ≤ 18) :
    Calls Tryz.prog 135 #[.pointer (some ⟨rb, 0, none⟩), .int .i64 v] w
      (Ran sp w rb s (fun x => .tuple #[.int .u8 (x.1 : Nat), .int .i64 (x.2 : Nat)]) id (Gz.run d v s.pos)) := by
  have hk : v = 16 ∨ v = 17 ∨ v = 18 ∨ v < 16 := by omega
  rcases hk with rfl | rfl | rfl | hk
  · by_cases hl : s.pos + 2 ≤ 8 * d.length
    · have hvl := val_lt d s.pos 2
      go_enter Tryz.func135, Tryz.ntmps135
      go_wp2_with fail
      refine (show Calls Tryz.prog 80 #[.int .i64 16] w fun e w' => e = .returned (.tuple #[.int .i64 2, .int .i64 3]) ∧ w' = w from behind_any 16 w (by omega)).mono ?_
      rintro e w0 ⟨rfl, rfl⟩
      go_wp2_with (go_at_call 110; refine (number_ok rb db s d 2 _ hn hdb hr hd (by omega) hl).mono ?_; rintro e w1 ⟨rfl, hr1, hf1⟩)
      go_ret2
      refine ⟨hf1, ?_⟩
      simp only [Gz.run, Gz.num, if_pos hl, Gz.Out.bind, if_true]
      exact ⟨ret_two rfl (congrArg (Value.int .i64) (by simp)), hr1⟩
    · go_enter Tryz.func135, Tryz.ntmps135
      go_wp2_with fail
      refine (show Calls Tryz.prog 80 #[.int .i64 16] w fun e w' => e = .returned (.tuple #[.int .i64 2, .int .i64 3]) ∧ w' = w from behind_any 16 w (by omega)).mono ?_
      rintro e w0 ⟨rfl, rfl⟩
      go_wp2_with (go_at_call 110; refine (number_short rb db s d 2 _ hn hdb hr hd (by omega) (by omega) hl).mono ?_; rintro e w1 ⟨⟨p, m, rfl, hp⟩, hr1, hf1⟩)
      refine bodyPost_panic rfl ⟨hf1, ?_⟩
      simp only [Gz.run, Gz.num, if_neg hl, Gz.Out.bind, if_true]
      exact ⟨hr1, Or.inl ⟨by trivial, p, m, rfl, hp⟩⟩
  · by_cases hl : s.pos + 3 ≤ 8 * d.length
    · have hvl := val_lt d s.pos 3
      go_enter Tryz.func135, Tryz.ntmps135
      go_wp2_with fail
      refine (show Calls Tryz.prog 80 #[.int .i64 17] w fun e w' => e = .returned (.tuple #[.int .i64 3, .int .i64 3]) ∧ w' = w from behind_any 17 w (by omega)).mono ?_
      rintro e w0 ⟨rfl, rfl⟩
      go_wp2_with (go_at_call 110; refine (number_ok rb db s d 3 _ hn hdb hr hd (by omega) hl).mono ?_; rintro e w1 ⟨rfl, hr1, hf1⟩)
      go_ret2
      refine ⟨hf1, ?_⟩
      simp only [Gz.run, Gz.num, if_pos hl, Gz.Out.bind, if_true]
      exact ⟨ret_two rfl (congrArg (Value.int .i64) (by simp)), hr1⟩
    · go_enter Tryz.func135, Tryz.ntmps135
      go_wp2_with fail
      refine (show Calls Tryz.prog 80 #[.int .i64 17] w fun e w' => e = .returned (.tuple #[.int .i64 3, .int .i64 3]) ∧ w' = w from behind_any 17 w (by omega)).mono ?_
      rintro e w0 ⟨rfl, rfl⟩
      go_wp2_with (go_at_call 110; refine (number_short rb db s d 3 _ hn hdb hr hd (by omega) (by omega) hl).mono ?_; rintro e w1 ⟨⟨p, m, rfl, hp⟩, hr1, hf1⟩)
      refine bodyPost_panic rfl ⟨hf1, ?_⟩
      simp only [Gz.run, Gz.num, if_neg hl, Gz.Out.bind, if_true]
      exact ⟨hr1, Or.inl ⟨by trivial, p, m, rfl, hp⟩⟩
  · by_cases hl : s.pos + 7 ≤ 8 * d.length
    · have hvl := val_lt d s.pos 7
      go_enter Tryz.func135, Tryz.ntmps135
      go_wp2_with fail
      refine (show Calls Tryz.prog 80 #[.int .i64 18] w fun e w' => e = .returned (.tuple #[.int .i64 7, .int .i64 11]) ∧ w' = w from behind_any 18 w (by omega)).mono ?_
      rintro e w0 ⟨rfl, rfl⟩
      go_wp2_with (go_at_call 110; refine (number_ok rb db s d 7 _ hn hdb hr hd (by omega) hl).mono ?_; rintro e w1 ⟨rfl, hr1, hf1⟩)
      go_ret2
      refine ⟨hf1, ?_⟩
      simp only [Gz.run, Gz.num, if_pos hl, Gz.Out.bind, if_true]
      exact ⟨ret_two rfl (congrArg (Value.int .i64) (by simp)), hr1⟩
    · go_enter Tryz.func135, Tryz.ntmps135
      go_wp2_with fail
      refine (show Calls Tryz.prog 80 #[.int .i64 18] w fun e w' => e = .returned (.tuple #[.int .i64 7, .int .i64 11]) ∧ w' = w from behind_any 18 w (by omega)).mono ?_
      rintro e w0 ⟨rfl, rfl⟩
      go_wp2_with (go_at_call 110; refine (number_short rb db s d 7 _ hn hdb hr hd (by omega) (by omega) hl).mono ?_; rintro e w1 ⟨⟨p, m, rfl, hp⟩, hr1, hf1⟩)
      refine bodyPost_panic rfl ⟨hf1, ?_⟩
      simp only [Gz.run, Gz.num, if_neg hl, Gz.Out.bind, if_true]
      exact ⟨hr1, Or.inl ⟨by trivial, p, m, rfl, hp⟩⟩
  · have h1 : runBits v = 0 := by unfold runBits; rw [if_neg (by omega), if_neg (by omega), if_neg (by omega)]
    have h2 : runLeast v = 1 := by unfold runLeast; rw [if_neg (by omega), if_neg (by omega), if_neg (by omega)]
    have hb := behind_any v w (by omega)
    rw [h1, h2] at hb
    have hlt : decide (16 ≤ (v : Int)) = false := by simp; omega
    go_enter Tryz.func135, Tryz.ntmps135
    go_wp2_with fail
    refine hb.mono ?_
    rintro e w0 ⟨rfl, rfl⟩
    go_wp2_with (go_at_call 110; refine (number_zero rb _).mono ?_; rintro e w1 ⟨rfl, rfl⟩)
    go_ret2
    refine ⟨Fr.refl _ _, ?_⟩
    have : Gz.run d v s.pos = .ok ((v, 1), s.pos) := by unfold Gz.run; rw [if_neg (by omega), if_neg (by omega), if_neg (by omega)]
    rw [this]
    refine ⟨ret_two (congrArg (Value.int .u8) ?_) rfl, hr⟩
    show (_ : Int) = (v : Int)
    first | rfl | omega

/-- Where a reader stands behind a block's end. -/
def RS.endPl (s : RS) : Nat := if s.la then 5 else 0

theorem endBlock_any (rb : Nat) (s : RS) (w : World) (hr : Rd w rb s) :
    Calls Tryz.prog 113 #[.pointer (some ⟨rb, 0, none⟩)] w fun e w' => e = .returned (.tuple #[]) ∧ Rd w' rb { s with pl := s.endPl, tb := .pointer none } ∧ Fr (One rb) w w' := by
  have h6 := hr.c6
  have h5 := hr.c5
  have f5 := hr.fz 6
  have h8 := hr.c8
  have f8 := hr.fz 9
  obtain ⟨dv, ps, pos, bg, lim, ov, pl, la, le, tb, ts⟩ := s
  cases la with
  | true =>
    have h6 : w.cell? ⟨rb, 7, none⟩ = some (.bool true) := h6
    go_enter Tryz.func113, Tryz.ntmps113
    go_wp2
    go_end0
    exact ⟨rfl, ((hr.s8 (.pointer none)).s5 0 0 rfl).s5 5 5 rfl, (((Fr.refl _ _).setCell (fun _ => one_self rb) _).setCell (fun _ => one_self rb) _).setCell (fun _ => one_self rb) _⟩
  | false =>
    have h6 : w.cell? ⟨rb, 7, none⟩ = some (.bool false) := h6
    go_enter Tryz.func113, Tryz.ntmps113
    go_wp2
    go_end0
    exact ⟨rfl, (hr.s8 (.pointer none)).s5 0 0 rfl, ((Fr.refl _ _).setCell (fun _ => one_self rb) _).setCell (fun _ => one_self rb) _⟩
end Go.Proofs.YtjjjlilflbddoaaGreatDoor
