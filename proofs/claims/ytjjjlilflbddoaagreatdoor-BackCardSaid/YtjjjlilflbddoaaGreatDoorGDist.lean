import Derived.Test.YtjjjlilflbddoaaGreatDoorGBase
namespace Go.Proofs.YtjjjlilflbddoaaGreatDoor
open Go.RowKit

theorem lengthBits_any (n : Nat) (w : World) (h : n ≤ 100000) : Calls Tryz.prog 82 #[.int .i64 n] w fun e w' => e = .returned (.int .i64 (Gz.lenBits n : Nat)) ∧ w' = w := by
  go_enter Tryz.func82, Tryz.ntmps82
  by_cases h1 : n ≤ 264
  · have h2 : decide ((n : Int) ≤ 264) = true := by simp; omega
    go_wp2
    go_ret
    refine ⟨ret_int ?_, rfl⟩
    unfold Gz.lenBits; rw [if_pos (Or.inl h1)]; rfl
  · by_cases h3 : n = 285
    · subst h3
      go_wp2
      go_ret
      exact ⟨rfl, rfl⟩
    · have h4 : ((n : Int) == 285) = false := by simp; omega
      go_wp2
      go_ret
      refine ⟨ret_int ?_, rfl⟩
      unfold Gz.lenBits; rw [if_neg (by omega)]; omega

theorem distanceBits_any (n : Nat) (w : World) (h : n ≤ 100000) : Calls Tryz.prog 83 #[.int .i64 n] w fun e w' => e = .returned (.int .i64 (Gz.distBits n : Nat)) ∧ w' = w := by
  go_enter Tryz.func83, Tryz.ntmps83
  by_cases h1 : n ≤ 3
  · go_wp2
    go_ret
    refine ⟨ret_int ?_, rfl⟩
    unfold Gz.distBits; rw [if_pos h1]; rfl
  · go_wp2
    go_ret
    refine ⟨ret_int ?_, rfl⟩
    unfold Gz.distBits; rw [if_neg h1]; omega

theorem Err.iface {sp : Nat → Addr} {w : World} {v : Value} {k n : Nat} (h : Err sp w v k n) : ∃ t p, v = .iface t (.pointer (some p)) := by
  cases h using Err.ways with
  | sent => exact ⟨_, _, rfl⟩
  | short => exact ⟨_, _, rfl⟩
  | fault => exact ⟨_, _, rfl⟩

end Go.Proofs.YtjjjlilflbddoaaGreatDoor
namespace Go.Proofs.YtjjjlilflbddoaaGreatDoor
open Go.RowKit

def runBits (v : Nat) : Nat := if v = 16 then 2 else if v = 17 then 3 else if v = 18 then 7 else 0

def runLeast (v : Nat) : Nat := if v = 16 then 3 else if v = 17 then 3 else if v = 18 then 11 else 1

theorem behind_any (v : Nat) (w : World) (hv : v ≤ 18) :
    Calls Tryz.prog 80 #[.int .i64 v] w fun e w' => e = .returned (.tuple #[.int .i64 (runBits v : Nat), .int .i64 (runLeast v : Nat)]) ∧ w' = w := by
  have hk : v = 16 ∨ v = 17 ∨ v = 18 ∨ v < 16 := by omega
  rcases hk with rfl | rfl | rfl | hk
  · go_enter Tryz.func80, Tryz.ntmps80
    go_wp2
    go_ret2
    exact ⟨rfl, rfl⟩
  · go_enter Tryz.func80, Tryz.ntmps80
    go_wp2
    go_ret2
    exact ⟨rfl, rfl⟩
  · go_enter Tryz.func80, Tryz.ntmps80
    go_wp2
    go_ret2
    exact ⟨rfl, rfl⟩
  · have e16 : ((v : Int) == 16) = false := by simp; omega
    have e17 : ((v : Int) == 17) = false := by simp; omega
    have e18 : ((v : Int) == 18) = false := by simp; omega
    go_enter Tryz.func80, Tryz.ntmps80
    go_wp2
    go_ret2
    have h1 : runBits v = 0 := by unfold runBits; rw [if_neg (by omega), if_neg (by omega), if_neg (by omega)]
    have h2 : runLeast v = 1 := by unfold runLeast; rw [if_neg (by omega), if_neg (by omega), if_neg (by omega)]
    rw [h1, h2]
    exact ⟨rfl, rfl⟩

theorem number_zero (rb : Nat) (w : World) :
    Calls Tryz.prog 110 #[.pointer (some ⟨rb, 0, none⟩), .int .i64 0] w fun e w' => e = .returned (.int .i64 0) ∧ w' = w := by
  go_enter Tryz.func110, Tryz.ntmps110
  go_wp2
  go_loopw [5, 8] (fun sum i wr => i = .int .i64 0 ∧ sum = .int .i64 0 ∧ wr = w) (fun _ _ _ => 0)
  case atStart => exact ⟨rfl, rfl, rfl⟩
  case round =>
    obtain ⟨rfl, rfl, rfl⟩ := hrel
    go_wp2
    go_ret
    exact ⟨rfl, rfl⟩

set_option maxHeartbeats 800000 in
theorem run_any (sp : Nat → Addr) (rb db v : Nat) (s : RS) (d : List UInt8) (w : World) (hn : d.length ≤ 4000) (hdb : db ≠ rb)
    (hr : Rd w rb s) (hd : Dat w db s.dv d) (hv : v ≤ 18) :
    Calls Tryz.prog 135 #[.pointer (some ⟨rb, 0, none⟩), .int .i64 v] w
      (Ran sp w rb s (fun x => .tuple #[.int .u8 (x.1 : Nat), .int .i64 (x.2 : Nat)]) id (Gz.run d v s.pos)) := by
  have hk : v = 16 ∨ v = 17 ∨ v = 18 ∨ v < 16 := by omega
  rcases hk with rfl | rfl | rfl | hk
  · by_cases hl : s.pos + 2 ≤ 8 * d.length
    · have hvl := val_lt d s.pos 2
      go_enter Tryz.func135, Tryz.ntmps135
      go_wp2_with fail
      refine (show Calls Tryz.prog 80 #[.int .i64 16] w fun e w' => e = .returned (.tuple #[.int .i64 2, .int .i64 3]) ∧ w' = w from behind_any 16 w (by omega)).mono ?_
      rintro e w0 ⟨rfl, rfl⟩
      go_wp2_with (go_at_call 110; refine (number_ok rb db s d 2 _ hn hdb hr hd (by omega) hl).mono ?_; rintro e w1 ⟨rfl, hr1, hf1⟩)
      go_ret2
      refine ⟨hf1, ?_⟩
      simp only [Gz.run, Gz.num, if_pos hl, Gz.Out.bind, if_true]
      exact ⟨ret_two rfl (congrArg (Value.int .i64) (by simp)), hr1⟩
    · go_enter Tryz.func135, Tryz.ntmps135
      go_wp2_with fail
      refine (show Calls Tryz.prog 80 #[.int .i64 16] w fun e w' => e = .returned (.tuple #[.int .i64 2, .int .i64 3]) ∧ w' = w from behind_any 16 w (by omega)).mono ?_
      rintro e w0 ⟨rfl, rfl⟩
      go_wp2_with (go_at_call 110; refine (number_short rb db s d 2 _ hn hdb hr hd (by omega) (by omega) hl).mono ?_; rintro e w1 ⟨⟨p, m, rfl, hp⟩, hr1, hf1⟩)
      refine bodyPost_panic rfl ⟨hf1, ?_⟩
      simp only [Gz.run, Gz.num, if_neg hl, Gz.Out.bind, if_true]
      exact ⟨hr1, Or.inl ⟨by trivial, p, m, rfl, hp⟩⟩
  · by_cases hl : s.pos + 3 ≤ 8 * d.length
    · have hvl := val_lt d s.pos 3
      go_enter Tryz.func135, Tryz.ntmps135
      go_wp2_with fail
      refine (show Calls Tryz.prog 80 #[.int .i64 17] w fun e w' => e = .returned (.tuple #[.int .i64 3, .int .i64 3]) ∧ w' = w from behind_any 17 w (by omega)).mono ?_
      rintro e w0 ⟨rfl, rfl⟩
      go_wp2_with (go_at_call 110; refine (number_ok rb db s d 3 _ hn hdb hr hd (by omega) hl).mono ?_; rintro e w1 ⟨rfl, hr1, hf1⟩)
      go_ret2
      refine ⟨hf1, ?_⟩
      simp only [Gz.run, Gz.num, if_pos hl, Gz.Out.bind, if_true]
      exact ⟨ret_two rfl (congrArg (Value.int .i64) (by simp)), hr1⟩
    · go_enter Tryz.func135, Tryz.ntmps135
      go_wp2_with fail
      refine (show Calls Tryz.prog 80 #[.int .i64 17] w fun e w' => e = .returned (.tuple #[.int .i64 3, .int .i64 3]) ∧ w' = w from behind_any 17 w (by omega)).mono ?_
      rintro e w0 ⟨rfl, rfl⟩
      go_wp2_with (go_at_call 110; refine (number_short rb db s d 3 _ hn hdb hr hd (by omega) (by omega) hl).mono ?_; rintro e w1 ⟨⟨p, m, rfl, hp⟩, hr1, hf1⟩)
      refine bodyPost_panic rfl ⟨hf1, ?_⟩
      simp only [Gz.run, Gz.num, if_neg hl, Gz.Out.bind, if_true]
      exact ⟨hr1, Or.inl ⟨by trivial, p, m, rfl, hp⟩⟩
  · by_cases hl : s.pos + 7 ≤ 8 * d.length
    · have hvl := val_lt d s.pos 7
      go_enter Tryz.func135, Tryz.ntmps135
      go_wp2_with fail
      refine (show Calls Tryz.prog 80 #[.int .i64 18] w fun e w' => e = .returned (.tuple #[.int .i64 7, .int .i64 11]) ∧ w' = w from behind_any 18 w (by omega)).mono ?_
      rintro e w0 ⟨rfl, rfl⟩
      go_wp2_with (go_at_call 110; refine (number_ok rb db s d 7 _ hn hdb hr hd (by omega) hl).mono ?_; rintro e w1 ⟨rfl, hr1, hf1⟩)
      go_ret2
      refine ⟨hf1, ?_⟩
      simp only [Gz.run, Gz.num, if_pos hl, Gz.Out.bind, if_true]
      exact ⟨ret_two rfl (congrArg (Value.int .i64) (by simp)), hr1⟩
    · go_enter Tryz.func135, Tryz.ntmps135
      go_wp2_with fail
      refine (show Calls Tryz.prog 80 #[.int .i64 18] w fun e w' => e = .returned (.tuple #[.int .i64 7, .int .i64 11]) ∧ w' = w from behind_any 18 w (by omega)).mono ?_
      rintro e w0 ⟨rfl, rfl⟩
      go_wp2_with (go_at_call 110; refine (number_short rb db s d 7 _ hn hdb hr hd (by omega) (by omega) hl).mono ?_; rintro e w1 ⟨⟨p, m, rfl, hp⟩, hr1, hf1⟩)
      refine bodyPost_panic rfl ⟨hf1, ?_⟩
      simp only [Gz.run, Gz.num, if_neg hl, Gz.Out.bind, if_true]
      exact ⟨hr1, Or.inl ⟨by trivial, p, m, rfl, hp⟩⟩
  · have h1 : runBits v = 0 := by unfold runBits; rw [if_neg (by omega), if_neg (by omega), if_neg (by omega)]
    have h2 : runLeast v = 1 := by unfold runLeast; rw [if_neg (by omega), if_neg (by omega), if_neg (by omega)]
    have hb := behind_any v w (by omega)
    rw [h1, h2] at hb
    have hlt : decide (16 ≤ (v : Int)) = false := by simp; omega
    go_enter Tryz.func135, Tryz.ntmps135
    go_wp2_with fail
    refine hb.mono ?_
    rintro e w0 ⟨rfl, rfl⟩
    go_wp2_with (go_at_call 110; refine (number_zero rb _).mono ?_; rintro e w1 ⟨rfl, rfl⟩)
    go_ret2
    refine ⟨Fr.refl _ _, ?_⟩
    have : Gz.run d v s.pos = .ok ((v, 1), s.pos) := by unfold Gz.run; rw [if_neg (by omega), if_neg (by omega), if_neg (by omega)]
    rw [this]
    refine ⟨ret_two (congrArg (Value.int .u8) ?_) rfl, hr⟩
    show (_ : Int) = (v : Int)
    first | rfl | omega

/-- Where a reader stands behind a block's end. -/
def RS.endPl (s : RS) : Nat := if s.la then 5 else 0

theorem endBlock_any (rb : Nat) (s : RS) (w : World) (hr : Rd w rb s) :
    Calls Tryz.prog 113 #[.pointer (some ⟨rb, 0, none⟩)] w fun e w' => e = .returned (.tuple #[]) ∧ Rd w' rb { s with pl := s.endPl, tb := .pointer none } ∧ Fr (One rb) w w' := by
  have h6 := hr.c6
  have h5 := hr.c5
  have f5 := hr.fz 6
  have h8 := hr.c8
  have f8 := hr.fz 9
  obtain ⟨dv, ps, pos, bg, lim, ov, pl, la, le, tb, ts⟩ := s
  cases la with
  | true =>
    have h6 : w.cell? ⟨rb, 7, none⟩ = some (.bool true) := h6
    go_enter Tryz.func113, Tryz.ntmps113
    go_wp2
    go_end0
    exact ⟨rfl, ((hr.s8 (.pointer none)).s5 0 0 rfl).s5 5 5 rfl, (((Fr.refl _ _).setCell (fun _ => one_self rb) _).setCell (fun _ => one_self rb) _).setCell (fun _ => one_self rb) _⟩
  | false =>
    have h6 : w.cell? ⟨rb, 7, none⟩ = some (.bool false) := h6
    go_enter Tryz.func113, Tryz.ntmps113
    go_wp2
    go_end0
    exact ⟨rfl, (hr.s8 (.pointer none)).s5 0 0 rfl, ((Fr.refl _ _).setCell (fun _ => one_self rb) _).setCell (fun _ => one_self rb) _⟩
end Go.Proofs.YtjjjlilflbddoaaGreatDoor
namespace Go.Proofs.YtjjjlilflbddoaaGreatDoor
open Go.RowKit
set_option maxHeartbeats 800000 in
theorem distance_any (sp : Nat → Addr) (rb db tb sb : Nat) (s : RS) (d : List UInt8) (c : Gz.Code) (w : World) (hn : d.length ≤ 4000) (hdb : db ≠ rb) (htb : tb ≠ rb) (hsb : sb ≠ rb) (h13 : 16 ≤ rb)
    (hE : Env sp w) (hr : Rd w rb s) (hd : Dat w db s.dv d) (hst : s.tb = .pointer (some ⟨tb, 0, none⟩)) (hc : CodeAt w tb 18 sb c) (hg : Good c) :
    Calls Tryz.prog 149 #[.pointer (some ⟨rb, 0, none⟩)] w
      (Ran sp w rb s (fun v => .tuple #[.int .i64 (v : Nat), .nilIface]) (fun v => .tuple #[.int .i64 0, v]) (Gz.dist d c s.pos)) := by
  have h8 := hr.c8
  rw [hst] at h8
  have HST := hide hst
  clear hst
  have hne := neq_err
  have hnn := neq_nil
  go_enter Tryz.func149, Tryz.ntmps149
  go_wp2_with fail
  refine (symbol_any sp rb db tb 18 sb s d c _ hn hdb htb hsb h13 hE hr hd hc hg).mono ?_
  rintro e w1 ⟨hf1, hres⟩
  cases hs : Gz.sym d c s.pos with
  | error k =>
    have HD : Hid (Gz.dist d c s.pos = .error k) := by unfold Hid Gz.dist; rw [hs]; rfl
    rw [hs] at hres
    clear hs
    obtain ⟨⟨q, hr1⟩, ⟨rfl, hsh⟩ | ⟨h3, h8', v, n, rfl, hv⟩⟩ := hres
    · obtain ⟨p, m, rfl, hp⟩ := hsh
      go_wp2
      refine bodyPost_panic rfl ⟨hf1, ?_⟩
      rw [HD.out]
      exact ⟨⟨q, hr1⟩, Or.inl ⟨rfl, p, m, rfl, hp⟩⟩
    · obtain ⟨t, p, rfl⟩ := hv.iface
      go_wp2
      go_ret2
      refine ⟨hf1, ?_⟩
      rw [HD.out]
      exact ⟨⟨q, hr1⟩, Or.inr ⟨h3, h8', _, n, rfl, hv⟩⟩
  | ok okk =>
    obtain ⟨v, q⟩ := okk
    rw [hs] at hres
    obtain ⟨rfl, hr1⟩ := hres
    have hq := sym_ok hs
    have hE1 := hE.fr hf1 (fun k hk => one_ne (by omega))
    have hsent : w1.cell? ⟨3, 0, none⟩ = some (.iface 248 (.pointer (some (sp 6)))) := hE1.err 6 (by omega) (by omega)
    by_cases h29 : 29 < v
    · have HD : Hid (Gz.dist d c s.pos = .error 6) := by unfold Hid Gz.dist; rw [hs]; simp [Gz.Out.bind, h29]
      clear hs
      go_wp2
      go_region
      all_goals
        go_wp2
        go_ret2
        refine ⟨(hf1.drew).alloc _, ?_⟩
        rw [HD.out]
        exact ⟨⟨q, hr1.alloc _⟩, Or.inr ⟨by omega, by omega, _, 1, rfl, .fault _ _ _ _ _ (alloc_at w1.drew _) (.sent 6 (by omega) (by omega))⟩⟩
    · have hfar := hE1.far v (by omega)
      have hdb13 : Gz.distBits v ≤ 13 := by unfold Gz.distBits; split <;> omega
      by_cases hl : q + Gz.distBits v ≤ 8 * d.length
      · have HD : Hid (Gz.dist d c s.pos = .ok ((Gz.distFrom.getD v 0 + Gz.val d q (Gz.distBits v)), (q + Gz.distBits v))) := by
          unfold Hid Gz.dist; rw [hs]; simp only [Gz.Out.bind, if_neg h29, Gz.num, if_pos hl]
        clear hs
        go_wp2
        have hd1 := hd.fr hf1 (one_ne hdb)
        have hfb : Gz.distFrom[v]?.getD 0 ≤ 24577 := farFrom_le v
        have hvb := val_lt d q (Gz.distBits v)
        have hpb : 2 ^ Gz.distBits v ≤ 2 ^ 13 := Nat.pow_le_pow_right (by decide) hdb13
        have hv30 : (v : Int) < 30 := by omega
        refine wp_region_any (by kernel_rfl) ?_
        change wpAny _ _ _ _ _ _ _ (World.drew _)
        refine wpAny_take (i := 0) (v := ?_) rfl (by kernel_rfl) (by kernel_rfl) (by kernel_rfl) (fun _ _ _ h => h) (Or.inl ⟨by rfl, by intro w; go_simp; with_reducible rfl⟩) ?_
        refine wpAny_take (i := 1) (v := ?_) rfl (by kernel_rfl) (by kernel_rfl) (by kernel_rfl) (fun _ _ _ h => h) (Or.inl ⟨by rfl, by intro w; go_simp; with_reducible rfl⟩) ?_
        refine wpAny_take (i := 3) (v := ?_) rfl (by kernel_rfl) (by kernel_rfl) (by kernel_rfl) (fun _ _ _ h => h) (Or.inl ⟨by rfl, by intro w; go_simp; with_reducible rfl⟩) ?_
        refine wpAny_take (i := 4) (v := ?_) rfl (by kernel_rfl) (by kernel_rfl) (by kernel_rfl) (fun _ _ _ h => h) (Or.inl ⟨by rfl, by intro w; go_simp; with_reducible rfl⟩) ?_
        refine wpAny_ready (rs := [2, 5]) (by kernel_rfl) (by simp) ?_
        refine AllReady.cons rfl (fun K hK => ?_) ?_
        · go_simp
          refine hK _ _ ?_
          clear hK K
          refine wpAny_ready (rs := [5]) (by kernel_rfl) (by simp) ?_
          refine AllReady.cons rfl (fun K hK => ?_) AllReady.nil
          go_simp
          refine (distanceBits_any v _ (by omega)).mono ?_
          rintro e w2 ⟨rfl, rfl⟩
          refine hK _ _ ?_
          clear hK K
          refine wpAny_ready (rs := [6]) (by kernel_rfl) (by simp) ?_
          refine AllReady.cons rfl (fun K hK => ?_) AllReady.nil
          go_simp
          refine (number_ok rb db { s with pos := q } d (Gz.distBits v) _ hn hdb (by exact hr1) (by exact hd1) (by omega) hl).mono ?_
          rintro e w2 ⟨rfl, hr2, hf2⟩
          have hfar2 := (hE1.fr (Fr.trans ((Fr.refl _ _).drew) hf2) (fun k hk => one_ne (by omega))).far v (by omega)
          refine hK _ _ ?_
          clear hK K
          refine wpAny_take (i := 7) (v := ?_) rfl (by kernel_rfl) (by kernel_rfl) (by kernel_rfl) (fun _ _ _ h => h) (Or.inl ⟨by rfl, by intro w; go_simp; with_reducible rfl⟩) ?_
          refine wpAny_take (i := 8) (v := ?_) rfl (by kernel_rfl) (by kernel_rfl) (by kernel_rfl) (fun _ _ _ h => h) (Or.inl ⟨by rfl, by intro w; go_simp; with_reducible rfl⟩) ?_
          refine wpAny_take (i := 9) (v := ?_) rfl (by kernel_rfl) (by kernel_rfl) (by kernel_rfl) (fun _ _ _ h => h) (Or.inl ⟨by rfl, by intro w; go_simp; with_reducible rfl⟩) ?_
          refine wpAny_done (by kernel_rfl) ?_ _
          go_wp2
          go_ret2
          refine ⟨(hf1.drew).trans hf2, ?_⟩
          rw [HD.out]
          refine ⟨ret_two (congrArg (Value.int .i64) ?_) rfl, hr2⟩
          rw [wraps_i64 _ (by omega) (by omega)]
          rfl
        refine AllReady.cons rfl (fun K hK => ?_) AllReady.nil
        go_simp
        refine (distanceBits_any v _ (by omega)).mono ?_
        rintro e w2 ⟨rfl, rfl⟩
        refine hK _ _ ?_
        clear hK K
        refine wpAny_ready (rs := [2, 6]) (by kernel_rfl) (by simp) ?_
        refine AllReady.cons rfl (fun K hK => ?_) ?_
        · go_simp
          refine hK _ _ ?_
          clear hK K
          refine wpAny_ready (rs := [6]) (by kernel_rfl) (by simp) ?_
          refine AllReady.cons rfl (fun K hK => ?_) AllReady.nil
          go_simp
          refine (number_ok rb db { s with pos := q } d (Gz.distBits v) _ hn hdb (by exact hr1) (by exact hd1) (by omega) hl).mono ?_
          rintro e w2 ⟨rfl, hr2, hf2⟩
          have hfar2 := (hE1.fr (Fr.trans ((Fr.refl _ _).drew) hf2) (fun k hk => one_ne (by omega))).far v (by omega)
          refine hK _ _ ?_
          clear hK K
          refine wpAny_take (i := 7) (v := ?_) rfl (by kernel_rfl) (by kernel_rfl) (by kernel_rfl) (fun _ _ _ h => h) (Or.inl ⟨by rfl, by intro w; go_simp; with_reducible rfl⟩) ?_
          refine wpAny_take (i := 8) (v := ?_) rfl (by kernel_rfl) (by kernel_rfl) (by kernel_rfl) (fun _ _ _ h => h) (Or.inl ⟨by rfl, by intro w; go_simp; with_reducible rfl⟩) ?_
          refine wpAny_take (i := 9) (v := ?_) rfl (by kernel_rfl) (by kernel_rfl) (by kernel_rfl) (fun _ _ _ h => h) (Or.inl ⟨by rfl, by intro w; go_simp; with_reducible rfl⟩) ?_
          refine wpAny_done (by kernel_rfl) ?_ _
          go_wp2
          go_ret2
          refine ⟨(hf1.drew).trans hf2, ?_⟩
          rw [HD.out]
          refine ⟨ret_two (congrArg (Value.int .i64) ?_) rfl, hr2⟩
          rw [wraps_i64 _ (by omega) (by omega)]
          rfl
        refine AllReady.cons rfl (fun K hK => ?_) AllReady.nil
        go_simp
        refine (number_ok rb db { s with pos := q } d (Gz.distBits v) _ hn hdb (by exact hr1) (by exact hd1) (by omega) hl).mono ?_
        rintro e w2 ⟨rfl, hr2, hf2⟩
        have hfar2 := (hE1.fr (Fr.trans ((Fr.refl _ _).drew) hf2) (fun k hk => one_ne (by omega))).far v (by omega)
        refine hK _ _ ?_
        clear hK K
        refine wpAny_ready (rs := [2]) (by kernel_rfl) (by simp) ?_
        refine AllReady.cons rfl (fun K hK => ?_) AllReady.nil
        go_simp
        refine hK _ _ ?_
        clear hK K
        refine wpAny_take (i := 7) (v := ?_) rfl (by kernel_rfl) (by kernel_rfl) (by kernel_rfl) (fun _ _ _ h => h) (Or.inl ⟨by rfl, by intro w; go_simp; with_reducible rfl⟩) ?_
        refine wpAny_take (i := 8) (v := ?_) rfl (by kernel_rfl) (by kernel_rfl) (by kernel_rfl) (fun _ _ _ h => h) (Or.inl ⟨by rfl, by intro w; go_simp; with_reducible rfl⟩) ?_
        refine wpAny_take (i := 9) (v := ?_) rfl (by kernel_rfl) (by kernel_rfl) (by kernel_rfl) (fun _ _ _ h => h) (Or.inl ⟨by rfl, by intro w; go_simp; with_reducible rfl⟩) ?_
        refine wpAny_done (by kernel_rfl) ?_ _
        go_wp2
        go_ret2
        refine ⟨(hf1.drew).trans hf2, ?_⟩
        rw [HD.out]
        refine ⟨ret_two (congrArg (Value.int .i64) ?_) rfl, hr2⟩
        rw [wraps_i64 _ (by omega) (by omega)]
        rfl
      · have HD : Hid (Gz.dist d c s.pos = .error 2) := by
          unfold Hid Gz.dist; rw [hs]; simp only [Gz.Out.bind, if_neg h29, Gz.num, if_neg hl]
        have hb0 : 0 < Gz.distBits v := by omega
        clear hs
        go_wp2
        have hd1 := hd.fr hf1 (one_ne hdb)
        have hv30 : (v : Int) < 30 := by omega
        refine wp_region_any (by kernel_rfl) ?_
        change wpAny _ _ _ _ _ _ _ (World.drew _)
        refine wpAny_take (i := 0) (v := ?_) rfl (by kernel_rfl) (by kernel_rfl) (by kernel_rfl) (fun _ _ _ h => h) (Or.inl ⟨by rfl, by intro w; go_simp; with_reducible rfl⟩) ?_
        refine wpAny_take (i := 1) (v := ?_) rfl (by kernel_rfl) (by kernel_rfl) (by kernel_rfl) (fun _ _ _ h => h) (Or.inl ⟨by rfl, by intro w; go_simp; with_reducible rfl⟩) ?_
        refine wpAny_take (i := 3) (v := ?_) rfl (by kernel_rfl) (by kernel_rfl) (by kernel_rfl) (fun _ _ _ h => h) (Or.inl ⟨by rfl, by intro w; go_simp; with_reducible rfl⟩) ?_
        refine wpAny_take (i := 4) (v := ?_) rfl (by kernel_rfl) (by kernel_rfl) (by kernel_rfl) (fun _ _ _ h => h) (Or.inl ⟨by rfl, by intro w; go_simp; with_reducible rfl⟩) ?_
        refine wpAny_ready (rs := [2, 5]) (by kernel_rfl) (by simp) ?_
        refine AllReady.cons rfl (fun K hK => ?_) ?_
        · go_simp
          refine hK _ _ ?_
          clear hK K
          refine wpAny_ready (rs := [5]) (by kernel_rfl) (by simp) ?_
          refine AllReady.cons rfl (fun K hK => ?_) AllReady.nil
          go_simp
          refine (distanceBits_any v _ (by omega)).mono ?_
          rintro e w2 ⟨rfl, rfl⟩
          refine hK _ _ ?_
          clear hK K
          refine wpAny_ready (rs := [6]) (by kernel_rfl) (by simp) ?_
          refine AllReady.cons rfl (fun K hK => ?_) AllReady.nil
          go_simp
          refine (number_short rb db { s with pos := q } d (Gz.distBits v) _ hn hdb (by exact hr1) (by exact hd1) (by omega) hb0 hl).mono ?_
          rintro e w2 ⟨⟨p, m, rfl, hp⟩, ⟨q2, hr2⟩, hf2⟩
          refine bodyPost_panic rfl ⟨(hf1.drew).trans hf2, ?_⟩
          rw [HD.out]
          exact ⟨⟨q2, hr2⟩, Or.inl ⟨rfl, p, m, rfl, hp⟩⟩
        refine AllReady.cons rfl (fun K hK => ?_) AllReady.nil
        go_simp
        refine (distanceBits_any v _ (by omega)).mono ?_
        rintro e w2 ⟨rfl, rfl⟩
        refine hK _ _ ?_
        clear hK K
        refine wpAny_ready (rs := [2, 6]) (by kernel_rfl) (by simp) ?_
        refine AllReady.cons rfl (fun K hK => ?_) ?_
        · go_simp
          refine hK _ _ ?_
          clear hK K
          refine wpAny_ready (rs := [6]) (by kernel_rfl) (by simp) ?_
          refine AllReady.cons rfl (fun K hK => ?_) AllReady.nil
          go_simp
          refine (number_short rb db { s with pos := q } d (Gz.distBits v) _ hn hdb (by exact hr1) (by exact hd1) (by omega) hb0 hl).mono ?_
          rintro e w2 ⟨⟨p, m, rfl, hp⟩, ⟨q2, hr2⟩, hf2⟩
          refine bodyPost_panic rfl ⟨(hf1.drew).trans hf2, ?_⟩
          rw [HD.out]
          exact ⟨⟨q2, hr2⟩, Or.inl ⟨rfl, p, m, rfl, hp⟩⟩
        refine AllReady.cons rfl (fun K hK => ?_) AllReady.nil
        go_simp
        refine (number_short rb db { s with pos := q } d (Gz.distBits v) _ hn hdb (by exact hr1) (by exact hd1) (by omega) hb0 hl).mono ?_
        rintro e w2 ⟨⟨p, m, rfl, hp⟩, ⟨q2, hr2⟩, hf2⟩
        refine bodyPost_panic rfl ⟨(hf1.drew).trans hf2, ?_⟩
        rw [HD.out]
        exact ⟨⟨q2, hr2⟩, Or.inl ⟨rfl, p, m, rfl, hp⟩⟩
end Go.Proofs.YtjjjlilflbddoaaGreatDoor
namespace Go.Proofs.YtjjjlilflbddoaaGreatDoor
open Go.RowKit

/-- The reader at work: K holds the blocks that stay as they are (the data's among them). -/
structure Live (sp : Nat → Addr) (B rb db : Nat) (K : List Nat) (d out : List UInt8) (w : World) (s : RS) : Prop where
  env : Env sp w
  rd : Rd w rb s
  dat : Dat w db s.dv d
  row : w.ownsRow B 5 1 s.ov out.length (out.map bv)
  apart : ∀ k, s.ov.ownBlock = some k → k ≠ rb ∧ k ∉ K
  b13 : 16 ≤ B
  bsz : B ≤ w.heap.size
  brb : B ≤ rb
  dbK : db ∈ K
  rbK : rb ∉ K
  klt : ∀ k, k ∈ K → k < w.heap.size
  lim : s.lim ≤ 6000
  len : out.length ≤ s.lim
  dlen : d.length ≤ 4000

section
variable {sp : Nat → Addr} {B rb db : Nat} {K : List Nat} {d out : List UInt8} {w w' : World} {s s' : RS}
theorem Live.ne (h : Live sp B rb db K d out w s) {k : Nat} (hk : k ∈ K) : k ≠ rb := fun e => h.rbK (e ▸ hk)
theorem Live.one (h : Live sp B rb db K d out w s) : ∀ {w'}, Fr (One rb) w w' → Fr (Own B K) w w' := fun f => f.mono (fun k _ e => by have e' : k = rb := e; subst e'; exact ⟨h.brb, h.rbK⟩)
theorem Live.r13 (h : Live sp B rb db K d out w s) : 16 ≤ rb := Nat.le_trans h.b13 h.brb
theorem Live.of (h : Live sp B rb db K d out w s) (f : Fr (One rb) w w') (hr : Rd w' rb s') (h1 : s'.dv = s.dv) (h2 : s'.ov = s.ov) (h3 : s'.lim = s.lim) : Live sp B rb db K d out w' s' := by
  have h13 := h.r13
  refine ⟨h.env.fr f (fun k hk => one_ne (by omega)), hr, h1 ▸ h.dat.fr f (one_ne (h.ne h.dbK)), ?_, h2 ▸ h.apart, h.b13, Nat.le_trans h.bsz f.size, h.brb, h.dbK, h.rbK, fun k hk => Nat.lt_of_lt_of_le (h.klt k hk) f.size, h3 ▸ h.lim, h3 ▸ h.len, h.dlen⟩
  rw [h2]
  exact ownsRow_fr h.row f (fun g hg => one_ne (h.apart g hg).1)
theorem Live.form (h : Live sp B rb db K d out w s) : ∃ ao cap, s.ov = .slice ao out.length cap := by
  rcases h.row.2 with ⟨h, h0⟩ | ⟨g, cap, cur, h, _⟩
  · exact ⟨none, 0, by rw [h, h0]⟩
  · exact ⟨_, _, h⟩
/-- A byte that was put out. -/
theorem Live.byte (h : Live sp B rb db K d out w s) {i : Nat} (hi : i < out.length) : ∃ g cap, s.ov = .slice (some ⟨g, 0, none⟩) out.length cap ∧ w.cell? ⟨g, i, none⟩ = some (.int .u8 (out.getD i 0).toNat) := by
  rcases h.row.2 with ⟨_, h0⟩ | ⟨g, cap, cur, hv, _, hh, _, _, _, ht⟩
  · omega
  · refine ⟨g, cap, hv, ?_⟩
    rw [cell_of hh]
    have e1 : (cur.toList.take (out.length * 1))[i]? = (out.map bv)[i]? := by rw [ht]
    rw [List.getElem?_take_of_lt (by omega)] at e1
    rw [← Array.getElem?_toList, e1]
    simp [bv, List.getD, hi]
theorem Live.put (h : Live sp B rb db K d out w s) (hl : out.length < s.lim) (c : UInt8) :
    Calls Tryz.prog 112 #[.pointer (some ⟨rb, 0, none⟩), .int .u8 c.toNat] w fun e w' => e = .returned .nilIface ∧ (∃ ov', Live sp B rb db K d (out ++ [c]) w' { s with ov := ov' }) ∧ Fr (Own B K) w w' := by
  refine (put_ok B rb s out c w h.bsz h.rd h.row (fun e => (h.apart _ e).1 rfl) hl h.lim).mono ?_
  rintro e w' ⟨rfl, g, cap, hr, ho, hg, hf⟩
  have h13 := h.r13
  have hgB : B ≤ g := by
    rcases ho.2 with ⟨hh, _⟩ | ⟨g', _, _, hv, hb, _⟩
    · cases hh
    · injection hv with e1; injection e1 with e2; injection e2 with e3; omega
  have hf2 : Fr (Own B K) w w' := hf.mono (fun k hk e => by
    rcases e with e | e
    · subst e; exact ⟨h.brb, h.rbK⟩
    · refine ⟨?_, (h.apart k e).2⟩
      rcases h.row.2 with ⟨hh, _⟩ | ⟨g', _, _, hv, hb, _⟩
      · rw [hh] at e; cases e
      · rw [hv] at e; simp [Value.ownBlock] at e; omega)
  refine ⟨rfl, ⟨_, h.env.fr hf2 (fun k hk e => by have := e.1; have := h.b13; omega), hr, h.dat.fr hf2 (fun e => e.2 h.dbK), ho, fun k hk => ?_, h.b13, Nat.le_trans h.bsz hf.size, h.brb, h.dbK, h.rbK, fun k hk => Nat.lt_of_lt_of_le (h.klt k hk) hf.size, h.lim, by simp; omega, h.dlen⟩, hf2⟩
  have hkg : g = k := by simpa [Value.ownBlock] using hk
  subst hkg
  rcases hg with hg | hg
  · exact h.apart g hg
  · refine ⟨fun e => ?_, fun e => ?_⟩
    · have := h.rd.lt; omega
    · have := h.klt g e; omega
theorem Live.no (h : Live sp B rb db K d out w s) (hl : ¬ out.length < s.lim) (c : UInt8) :
    Calls Tryz.prog 112 #[.pointer (some ⟨rb, 0, none⟩), .int .u8 c.toNat] w fun e w' => e = .returned (.iface 248 (.pointer (some (sp 8)))) ∧ Fr No w w' := by
  obtain ⟨ao, cap, hov⟩ := h.form
  exact put_no sp rb s out.length cap ao c w h.env h.rd hov (by omega)
end

/-- The blocks of a table are none of bytes. -/
def Tagged (w : World) (tb s1 s2 : Nat) : Prop := (∃ c, w.heap[tb]? = some (.cells c 207 (0, 0))) ∧ (∃ c, w.heap[s1]? = some (.cells c 3 (0, 0))) ∧ ∃ c, w.heap[s2]? = some (.cells c 3 (0, 0))
theorem Tagged.fr {S : Nat → Prop} {w w' : World} {tb s1 s2 : Nat} (h : Tagged w tb s1 s2) (f : Fr S w w') (h0 : ¬ S tb) (h1 : ¬ S s1) (h2 : ¬ S s2) : Tagged w' tb s1 s2 := by
  obtain ⟨⟨a, ha⟩, ⟨b, hb⟩, c, hc⟩ := h
  exact ⟨⟨a, f.at ha h0⟩, ⟨b, f.at hb h1⟩, c, f.at hc h2⟩
/-- A table in memory. -/
structure TableAt (w : World) (K : List Nat) (tb s1 s2 : Nat) (t : Gz.Table) : Prop where
  syms : CodeAt w tb 0 s1 t.syms
  dists : CodeAt w tb 18 s2 t.dists
  g1 : Good t.syms
  g2 : Good t.dists
  k0 : tb ∈ K
  k1 : s1 ∈ K
  k2 : s2 ∈ K
  tg : Tagged w tb s1 s2
theorem TableAt.fr {B : Nat} {K : List Nat} {w w' : World} {tb s1 s2 : Nat} {t : Gz.Table} (h : TableAt w K tb s1 s2 t) (f : Fr (Own B K) w w') : TableAt w' K tb s1 s2 t :=
  ⟨h.syms.fr f (fun e => e.2 h.k0) (fun e => e.2 h.k1), h.dists.fr f (fun e => e.2 h.k0) (fun e => e.2 h.k2), h.g1, h.g2, h.k0, h.k1, h.k2, h.tg.fr f (fun e => e.2 h.k0) (fun e => e.2 h.k1) (fun e => e.2 h.k2)⟩

/-- How a part that puts out comes to its end. -/
def Ran2 {α : Type} (sp : Nat → Addr) (B rb : Nat) (K : List Nat) (w : World) (good : α → Nat → World → Prop) (r : Gz.Out α) (e : Ending) (w' : World) : Prop :=
  Fr (Own B K) w w' ∧ match r with
  | .ok (a, q) => e = .returned .nilIface ∧ good a q w'
  | .error k => (∃ s', Rd w' rb s') ∧ ((k = 2 ∧ ShortP w' e) ∨ (3 ≤ k ∧ k ≤ 8 ∧ ∃ v n, e = .returned v ∧ Err sp w' v k n))

/-- As Ran2, but what was put out (o) is known where a fault was met. -/
def Ran3 {α : Type} (sp : Nat → Addr) (B rb db : Nat) (K : List Nat) (d : List UInt8) (w : World) (s : RS) (good : α → Nat → World → Prop) (r : Gz.Out α) (o : List UInt8) (e : Ending) (w' : World) : Prop :=
  Fr (Own B K) w w' ∧ match r with
  | .ok (a, q) => e = .returned .nilIface ∧ good a q w'
  | .error k => (∃ q ov', Live sp B rb db K d o w' { s with pos := q, ov := ov' }) ∧ ((k = 2 ∧ ShortP w' e) ∨ (3 ≤ k ∧ k ≤ 8 ∧ ∃ v n, e = .returned v ∧ Err sp w' v k n))


end Go.Proofs.YtjjjlilflbddoaaGreatDoor
