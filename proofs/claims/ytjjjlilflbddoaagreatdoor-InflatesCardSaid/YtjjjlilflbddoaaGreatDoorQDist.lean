import Derived.Test.YtjjjlilflbddoaaGreatDoorSym
namespace Go.Proofs.YtjjjlilflbddoaaGreatDoor
open Go.RowKit

theorem lengthBits_any (n : Nat) (w : World) (h : n ≤ 100000) : Calls Tryz.prog 82 #[.int .i64 n] w fun e w' => e = .returned (.int .i64 (Gz.lenBits n : Nat)) ∧ w' = w := by
  go_enter Tryz.func82, Tryz.ntmps82
  by_cases h1 : n ≤ 264
  · have h2 : decide ((n : Int) ≤ 264) = true := by simp; omega
    go_wp2
    go_ret
    refine ⟨ret_int ?_, rfl⟩
    unfold Gz.lenBits; rw [if_pos (Or.inl h1)]; rfl
  · by_cases h3 : n = 285
    · subst h3
      go_wp2
      go_ret
      exact ⟨rfl, rfl⟩
    · have h4 : ((n : Int) == 285) = false := by simp; omega
      go_wp2
      go_ret
      refine ⟨ret_int ?_, rfl⟩
      unfold Gz.lenBits; rw [if_neg (by omega)]; omega

theorem distanceBits_any (n : Nat) (w : World) (h : n ≤ 100000) : Calls Tryz.prog 83 #[.int .i64 n] w fun e w' => e = .returned (.int .i64 (Gz.distBits n : Nat)) ∧ w' = w := by
  go_enter Tryz.func83, Tryz.ntmps83
  by_cases h1 : n ≤ 3
  · go_wp2
    go_ret
    refine ⟨ret_int ?_, rfl⟩
    unfold Gz.distBits; rw [if_pos h1]; rfl
  · go_wp2
    go_ret
    refine ⟨ret_int ?_, rfl⟩
    unfold Gz.distBits; rw [if_neg h1]; omega

theorem Err.iface {sp : Nat → Addr} {w : World} {v : Value} {k n : Nat} (h : Err sp w v k n) : ∃ t p, v = .iface t (.pointer (some p)) := by
  cases h using Err.ways with
  | sent => exact ⟨_, _, rfl⟩
  | short => exact ⟨_, _, rfl⟩
  | fault => exact ⟨_, _, rfl⟩

end Go.Proofs.YtjjjlilflbddoaaGreatDoor
namespace Go.Proofs.YtjjjlilflbddoaaGreatDoor
open Go.RowKit
set_option maxHeartbeats 800000 in
theorem distance_any (sp : Nat → Addr) (rb db tb sb : Nat) (s : RS) (d : List UInt8) (c : Gz.Code) (w : World) (hn : d.length ≤ 4000) (hdb : db ≠ rb) (htb : tb ≠ rb) (hsb : sb ≠ rb) (h13 : 16 ≤ rb)
    (hE : Env sp w) (hr : Rd w rb s) (hd : Dat w db s.dv d) (hst : s.tb = .pointer (some ⟨tb, 0, none⟩)) (hc : CodeAt w tb 18 sb c) (hg : Good c) :
    Calls Tryz.prog 149 #[.pointer (some ⟨rb, 0, none⟩)] w
      (Ran sp w rb s (fun v => .tuple #[.int .i64 (v : Nat), .nilIface]) (fun v => .tuple #[.int .i64 0, v]) (Gz.dist d c s.pos)) := by
  have h8 := hr.c8
  rw [hst] at h8
  have HST := hide hst
  clear hst
  have hne := neq_err
  have hnn := neq_nil
  go_enter Tryz.func149, Tryz.ntmps149
  go_wp2_with fail
  refine (symbol_any sp rb db tb 18 sb s d c _ hn hdb htb hsb h13 hE hr hd hc hg).mono ?_
  rintro e w1 ⟨hf1, hres⟩
  cases hs : Gz.sym d c s.pos with
  | error k =>
    have HD : Hid (Gz.dist d c s.pos = .error k) := by unfold Hid Gz.dist; rw [hs]; rfl
    rw [hs] at hres
    clear hs
    obtain ⟨⟨q, hr1⟩, ⟨rfl, hsh⟩ | ⟨h3, h8', v, n, rfl, hv⟩⟩ := hres
    · obtain ⟨p, m, rfl, hp⟩ := hsh
      go_wp2
      refine bodyPost_panic rfl ⟨hf1, ?_⟩
      rw [HD.out]
      exact ⟨⟨q, hr1⟩, Or.inl ⟨rfl, p, m, rfl, hp⟩⟩
    · obtain ⟨t, p, rfl⟩ := hv.iface
      go_wp2
      go_ret2
      refine ⟨hf1, ?_⟩
      rw [HD.out]
      exact ⟨⟨q, hr1⟩, Or.inr ⟨h3, h8', _, n, rfl, hv⟩⟩
  | ok okk =>
    obtain ⟨v, q⟩ := okk
    rw [hs] at hres
    obtain ⟨rfl, hr1⟩ := hres
    have hq := sym_ok hs
    have hE1 := hE.fr hf1 (fun k hk => one_ne (by omega))
    have hsent : w1.cell? ⟨3, 0, none⟩ = some (.iface 248 (.pointer (some (sp 6)))) := hE1.err 6 (by omega) (by omega)
    by_cases h29 : 29 < v
    · have HD : Hid (Gz.dist d c s.pos = .error 6) := by unfold Hid Gz.dist; rw [hs]; simp [Gz.Out.bind, h29]
      clear hs
      go_wp2
      go_region
      all_goals
        go_wp2
        go_ret2
        refine ⟨(hf1.drew).alloc _, ?_⟩
        rw [HD.out]
        exact ⟨⟨q, hr1.alloc _⟩, Or.inr ⟨by omega, by omega, _, 1, rfl, .fault _ _ _ _ _ (alloc_at w1.drew _) (.sent 6 (by omega) (by omega))⟩⟩
    · have hfar := hE1.far v (by omega)
      have hdb13 : Gz.distBits v ≤ 13 := by unfold Gz.distBits; split <;> omega
      by_cases hl : q + Gz.distBits v ≤ 8 * d.length
      · have HD : Hid (Gz.dist d c s.pos = .ok ((Gz.distFrom.getD v 0 + Gz.val d q (Gz.distBits v)), (q + Gz.distBits v))) := by
          unfold Hid Gz.dist; rw [hs]; simp only [Gz.Out.bind, if_neg h29, Gz.num, if_pos hl]
        clear hs
        go_wp2
        have hd1 := hd.fr hf1 (one_ne hdb)
        have hfb : Gz.distFrom[v]?.getD 0 ≤ 24577 := farFrom_le v
        have hvb := val_lt d q (Gz.distBits v)
        have hpb : 2 ^ Gz.distBits v ≤ 2 ^ 13 := Nat.pow_le_pow_right (by decide) hdb13
        have hv30 : (v : Int) < 30 := by omega
        refine wp_region_any (by kernel_rfl) ?_
        change wpAny _ _ _ _ _ _ _ (World.drew _)
        refine wpAny_take (i := 0) (v := ?_) rfl (by kernel_rfl) (by kernel_rfl) (by kernel_rfl) (fun _ _ _ h => h) (Or.inl ⟨by rfl, by intro w; go_simp; with_reducible rfl⟩) ?_
        refine wpAny_take (i := 1) (v := ?_) rfl (by kernel_rfl) (by kernel_rfl) (by kernel_rfl) (fun _ _ _ h => h) (Or.inl ⟨by rfl, by intro w; go_simp; with_reducible rfl⟩) ?_
        refine wpAny_take (i := 3) (v := ?_) rfl (by kernel_rfl) (by kernel_rfl) (by kernel_rfl) (fun _ _ _ h => h) (Or.inl ⟨by rfl, by intro w; go_simp; with_reducible rfl⟩) ?_
        refine wpAny_take (i := 4) (v := ?_) rfl (by kernel_rfl) (by kernel_rfl) (by kernel_rfl) (fun _ _ _ h => h) (Or.inl ⟨by rfl, by intro w; go_simp; with_reducible rfl⟩) ?_
        refine wpAny_ready (rs := [2, 5]) (by kernel_rfl) (by simp) ?_
        refine AllReady.cons rfl (fun K hK => ?_) ?_
        · go_simp
          refine hK _ _ ?_
          clear hK K
          refine wpAny_ready (rs := [5]) (by kernel_rfl) (by simp) ?_
          refine AllReady.cons rfl (fun K hK => ?_) AllReady.nil
          go_simp
          refine (distanceBits_any v _ (by omega)).mono ?_
          rintro e w2 ⟨rfl, rfl⟩
          refine hK _ _ ?_
          clear hK K
          refine wpAny_ready (rs := [6]) (by kernel_rfl) (by simp) ?_
          refine AllReady.cons rfl (fun K hK => ?_) AllReady.nil
          go_simp
          refine (number_ok rb db { s with pos := q } d (Gz.distBits v) _ hn hdb (by exact hr1) (by exact hd1) (by omega) hl).mono ?_
          rintro e w2 ⟨rfl, hr2, hf2⟩
          have hfar2 := (hE1.fr (Fr.trans ((Fr.refl _ _).drew) hf2) (fun k hk => one_ne (by omega))).far v (by omega)
          refine hK _ _ ?_
          clear hK K
          refine wpAny_take (i := 7) (v := ?_) rfl (by kernel_rfl) (by kernel_rfl) (by kernel_rfl) (fun _ _ _ h => h) (Or.inl ⟨by rfl, by intro w; go_simp; with_reducible rfl⟩) ?_
          refine wpAny_take (i := 8) (v := ?_) rfl (by kernel_rfl) (by kernel_rfl) (by kernel_rfl) (fun _ _ _ h => h) (Or.inl ⟨by rfl, by intro w; go_simp; with_reducible rfl⟩) ?_
          refine wpAny_take (i := 9) (v := ?_) rfl (by kernel_rfl) (by kernel_rfl) (by kernel_rfl) (fun _ _ _ h => h) (Or.inl ⟨by rfl, by intro w; go_simp; with_reducible rfl⟩) ?_
          refine wpAny_done (by kernel_rfl) ?_ _
          go_wp2
          go_ret2
          refine ⟨(hf1.drew).trans hf2, ?_⟩
          rw [HD.out]
          refine ⟨ret_two (congrArg (Value.int .i64) ?_) rfl, hr2⟩
          rw [wraps_i64 _ (by omega) (by omega)]
          rfl
        refine AllReady.cons rfl (fun K hK => ?_) AllReady.nil
        go_simp
        refine (distanceBits_any v _ (by omega)).mono ?_
        rintro e w2 ⟨rfl, rfl⟩
        refine hK _ _ ?_
        clear hK K
        refine wpAny_ready (rs := [2, 6]) (by kernel_rfl) (by simp) ?_
        refine AllReady.cons rfl (fun K hK => ?_) ?_
        · go_simp
          refine hK _ _ ?_
          clear hK K
          refine wpAny_ready (rs := [6]) (by kernel_rfl) (by simp) ?_
          refine AllReady.cons rfl (fun K hK => ?_) AllReady.nil
          go_simp
          refine (number_ok rb db { s with pos := q } d (Gz.distBits v) _ hn hdb (by exact hr1) (by exact hd1) (by omega) hl).mono ?_
          rintro e w2 ⟨rfl, hr2, hf2⟩
          have hfar2 := (hE1.fr (Fr.trans ((Fr.refl _ _).drew) hf2) (fun k hk => one_ne (by omega))).far v (by omega)
          refine hK _ _ ?_
          clear hK K
          refine wpAny_take (i := 7) (v := ?_) rfl (by kernel_rfl) (by kernel_rfl) (by kernel_rfl) (fun _ _ _ h => h) (Or.inl ⟨by rfl, by intro w; go_simp; with_reducible rfl⟩) ?_
          refine wpAny_take (i := 8) (v := ?_) rfl (by kernel_rfl) (by kernel_rfl) (by kernel_rfl) (fun _ _ _ h => h) (Or.inl ⟨by rfl, by intro w; go_simp; with_reducible rfl⟩) ?_
          refine wpAny_take (i := 9) (v := ?_) rfl (by kernel_rfl) (by kernel_rfl) (by kernel_rfl) (fun _ _ _ h => h) (Or.inl ⟨by rfl, by intro w; go_simp; with_reducible rfl⟩) ?_
          refine wpAny_done (by kernel_rfl) ?_ _
          go_wp2
          go_ret2
          refine ⟨(hf1.drew).trans hf2, ?_⟩
          rw [HD.out]
          refine ⟨ret_two (congrArg (Value.int .i64) ?_) rfl, hr2⟩
          rw [wraps_i64 _ (by omega) (by omega)]
          rfl
        refine AllReady.cons rfl (fun K hK => ?_) AllReady.nil
        go_simp
        refine (number_ok rb db { s with pos := q } d (Gz.distBits v) _ hn hdb (by exact hr1) (by exact hd1) (by omega) hl).mono ?_
        rintro e w2 ⟨rfl, hr2, hf2⟩
        have hfar2 := (hE1.fr (Fr.trans ((Fr.refl _ _).drew) hf2) (fun k hk => one_ne (by omega))).far v (by omega)
        refine hK _ _ ?_
        clear hK K
        refine wpAny_ready (rs := [2]) (by kernel_rfl) (by simp) ?_
        refine AllReady.cons rfl (fun K hK => ?_) AllReady.nil
        go_simp
        refine hK _ _ ?_
        clear hK K
        refine wpAny_take (i := 7) (v := ?_) rfl (by kernel_rfl) (by kernel_rfl) (by kernel_rfl) (fun _ _ _ h => h) (Or.inl ⟨by rfl, by intro w; go_simp; with_reducible rfl⟩) ?_
        refine wpAny_take (i := 8) (v := ?_) rfl (by kernel_rfl) (by kernel_rfl) (by kernel_rfl) (fun _ _ _ h => h) (Or.inl ⟨by rfl, by intro w; go_simp; with_reducible rfl⟩) ?_
        refine wpAny_take (i := 9) (v := ?_) rfl (by kernel_rfl) (by kernel_rfl) (by kernel_rfl) (fun _ _ _ h => h) (Or.inl ⟨by rfl, by intro w; go_simp; with_reducible rfl⟩) ?_
        refine wpAny_done (by kernel_rfl) ?_ _
        go_wp2
        go_ret2
        refine ⟨(hf1.drew).trans hf2, ?_⟩
        rw [HD.out]
        refine ⟨ret_two (congrArg (Value.int .i64) ?_) rfl, hr2⟩
        rw [wraps_i64 _ (by omega) (by omega)]
        rfl
      · have HD : Hid (Gz.dist d c s.pos = .error 2) := by
          unfold Hid Gz.dist; rw [hs]; simp only [Gz.Out.bind, if_neg h29, Gz.num, if_neg hl]
        have hb0 : 0 < Gz.distBits v := by omega
        clear hs
        go_wp2
        have hd1 := hd.fr hf1 (one_ne hdb)
        have hv30 : (v : Int) < 30 := by omega
        refine wp_region_any (by kernel_rfl) ?_
        change wpAny _ _ _ _ _ _ _ (World.drew _)
        refine wpAny_take (i := 0) (v := ?_) rfl (by kernel_rfl) (by kernel_rfl) (by kernel_rfl) (fun _ _ _ h => h) (Or.inl ⟨by rfl, by intro w; go_simp; with_reducible rfl⟩) ?_
        refine wpAny_take (i := 1) (v := ?_) rfl (by kernel_rfl) (by kernel_rfl) (by kernel_rfl) (fun _ _ _ h => h) (Or.inl ⟨by rfl, by intro w; go_simp; with_reducible rfl⟩) ?_
        refine wpAny_take (i := 3) (v := ?_) rfl (by kernel_rfl) (by kernel_rfl) (by kernel_rfl) (fun _ _ _ h => h) (Or.inl ⟨by rfl, by intro w; go_simp; with_reducible rfl⟩) ?_
        refine wpAny_take (i := 4) (v := ?_) rfl (by kernel_rfl) (by kernel_rfl) (by kernel_rfl) (fun _ _ _ h => h) (Or.inl ⟨by rfl, by intro w; go_simp; with_reducible rfl⟩) ?_
        refine wpAny_ready (rs := [2, 5]) (by kernel_rfl) (by simp) ?_
        refine AllReady.cons rfl (fun K hK => ?_) ?_
        · go_simp
          refine hK _ _ ?_
          clear hK K
          refine wpAny_ready (rs := [5]) (by kernel_rfl) (by simp) ?_
          refine AllReady.cons rfl (fun K hK => ?_) AllReady.nil
          go_simp
          refine (distanceBits_any v _ (by omega)).mono ?_
          rintro e w2 ⟨rfl, rfl⟩
          refine hK _ _ ?_
          clear hK K
          refine wpAny_ready (rs := [6]) (by kernel_rfl) (by simp) ?_
          refine AllReady.cons rfl (fun K hK => ?_) AllReady.nil
          go_simp
          refine (number_short rb db { s with pos := q } d (Gz.distBits v) _ hn hdb (by exact hr1) (by exact hd1) (by omega) hb0 hl).mono ?_
          rintro e w2 ⟨⟨p, m, rfl, hp⟩, ⟨q2, hr2⟩, hf2⟩
          refine bodyPost_panic rfl ⟨(hf1.drew).trans hf2, ?_⟩
          rw [HD.out]
          exact ⟨⟨q2, hr2⟩, Or.inl ⟨rfl, p, m, rfl, hp⟩⟩
        refine AllReady.cons rfl (fun K hK => ?_) AllReady.nil
        go_simp
        refine (distanceBits_any v _ (by omega)).mono ?_
        rintro e w2 ⟨rfl, rfl⟩
        refine hK _ _ ?_
        clear hK K
        refine wpAny_ready (rs := [2, 6]) (by kernel_rfl) (by simp) ?_
        refine AllReady.cons rfl (fun K hK => ?_) ?_
        · go_simp
          refine hK _ _ ?_
          clear hK K
          refine wpAny_ready (rs := [6]) (by kernel_rfl) (by simp) ?_
          refine AllReady.cons rfl (fun K hK => ?_) AllReady.nil
          go_simp
          refine (number_short rb db { s with pos := q } d (Gz.distBits v) _ hn hdb (by exact hr1) (by exact hd1) (by omega) hb0 hl).mono ?_
          rintro e w2 ⟨⟨p, m, rfl, hp⟩, ⟨q2, hr2⟩, hf2⟩
          refine bodyPost_panic rfl ⟨(hf1.drew).trans hf2, ?_⟩
          rw [HD.out]
          exact ⟨⟨q2, hr2⟩, Or.inl ⟨rfl, p, m, rfl, hp⟩⟩
        refine AllReady.cons rfl (fun K hK => ?_) AllReady.nil
        go_simp
        refine (number_short rb db { s with pos := q } d (Gz.distBits v) _ hn hdb (by exact hr1) (by exact hd1) (by omega) hb0 hl).mono ?_
        rintro e w2 ⟨⟨p, m, rfl, hp⟩, ⟨q2, hr2⟩, hf2⟩
        refine bodyPost_panic rfl ⟨(hf1.drew).trans hf2, ?_⟩
        rw [HD.out]
        exact ⟨⟨q2, hr2⟩, Or.inl ⟨rfl, p, m, rfl, hp⟩⟩
end Go.Proofs.YtjjjlilflbddoaaGreatDoor
