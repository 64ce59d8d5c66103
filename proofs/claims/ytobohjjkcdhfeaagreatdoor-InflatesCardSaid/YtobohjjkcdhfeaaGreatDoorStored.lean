import Derived.Test.YtobohjjkcdhfeaaGreatDoorSyms
namespace Go.Proofs.YtobohjjkcdhfeaaGreatDoor
open Go.RowKit

def leOf (rb : Nat) (w : World) : Nat := match w.cell? ⟨rb, 7, none⟩ with
  | some v => (intOf v).toNat
  | none => 0
theorem Rd.leOf {w : World} {rb : Nat} {s : RS} (h : Rd w rb s) : leOf rb w = s.le := by
  unfold Proofs.YtobohjjkcdhfeaaGreatDoor.leOf; rw [h.c7]; simp [intOf]

set_option maxRecDepth 100000 in
set_option maxHeartbeats 1600000 in
theorem storedBytes_any (sp : Nat → Addr) (B rb db : Nat) (K : List Nat) (s : RS) (d out : List UInt8) (w : World) (hL : Live sp B rb db K d out w s) (hle : s.le ≤ 65535) (hpos : s.pos ≤ 8 * d.length) :
    Calls Tryz.prog 38 #[.pointer (some ⟨rb, 0, none⟩)] w
      (Ran2 sp B rb K w (fun o q w' => ∃ ov' bg' le', Live sp B rb db K d o w' { s with pos := q, ov := ov', bg := bg', le := le', pl := s.endPl }) (Gz.bytes d s.lim s.le out s.pos)) := by
  have hne := neq_err
  have hnn := neq_nil
  go_enter Tryz.func38, Tryz.ntmps38
  go_wp2
  go_loopw [] (fun wr => ∃ (o : List UInt8) (ov' : Value) (bg' p k : Nat), k ≤ 65535 ∧ p ≤ 8 * d.length ∧ Live sp B rb db K d o wr { s with pos := p, ov := ov', bg := bg', le := k } ∧ Fr (Own B K) w wr ∧ Gz.bytes d s.lim k o p = Gz.bytes d s.lim s.le out s.pos) (fun wr => leOf rb wr)
  case atStart => exact ⟨out, s.ov, s.bg, s.pos, s.le, hle, hpos, hL, Fr.refl _ _, rfl⟩
  case round =>
    obtain ⟨o, ov', bg', p, k, hk, hp, hLr, hfr, hgo⟩ := hrel
    have HGO := hide hgo
    clear hgo
    have k7 := hLr.rd.c7
    by_cases hk0 : 0 < k
    · have k1 := hLr.rd.c1
      have k2 := hLr.rd.c2
      have e2 := hLr.rd.fz 2
      have hr1 : Rd (wr.setCell ⟨rb, 2, none⟩ (.int .i64 p)) rb { s with pos := p, ov := ov', bg := p, le := k } := hLr.rd.s2 _ p rfl (by have := hLr.dlen; omega)
      have hf1 : Fr (One rb) wr (wr.setCell ⟨rb, 2, none⟩ (.int .i64 p)) := (Fr.refl _ _).setCell (fun _ => one_self rb) _
      have hL1 := hLr.of hf1 hr1 rfl rfl rfl
      have hps : leOf rb wr = k := hLr.rd.leOf
      have HPS := hide hps
      clear hps
      have HB : Hid (Gz.bytes d s.lim s.le out s.pos = (Gz.num d 8 p).bind fun v p1 => if s.lim ≤ o.length then .error 8 else Gz.bytes d s.lim (k - 1) (o ++ [UInt8.ofNat v]) p1) := by
        unfold Hid; rw [← HGO.out, show k = (k - 1) + 1 by omega]; rfl
      by_cases hl : p + 8 ≤ 8 * d.length
      · have hv8 := val_lt d p 8
        have HB2 : Hid (Gz.bytes d s.lim s.le out s.pos = if s.lim ≤ o.length then .error 8 else Gz.bytes d s.lim (k - 1) (o ++ [UInt8.ofNat (Gz.val d p 8)]) (p + 8)) := by
          unfold Hid; rw [HB.out]; simp only [Gz.num, if_pos hl, Gz.Out.bind]
        go_wp2_with fail
        refine (number_ok rb db { s with pos := p, ov := ov', bg := p, le := k } d 8 _ hL1.dlen (hL1.ne hL1.dbK) hr1 hL1.dat (by omega) hl).mono ?_
        rintro e w2 ⟨rfl, hr2, hf2⟩
        have hL2 := hL1.of hf2 hr2 rfl rfl rfl
        have hz := ofNat_toNat (Gz.val d p 8) (by omega)
        have HZ := hide hz
        clear hz
        by_cases hlo : o.length < s.lim
        · go_wp2_with (go_at_call 55; refine (hL2.putz hlo (UInt8.ofNat (Gz.val d p 8)) _ (by first | exact HZ.out | (rw [← HZ.out]; omega))).mono ?_; rintro e w3 ⟨rfl, ⟨ov3, hL3⟩, hf3⟩; have k73 := hL3.rd.c7; have e73 := hL3.rd.fz 7)
          have hr4 : Rd (w3.setCell ⟨rb, 7, none⟩ (.int .i64 ((k : Int) - 1))) rb { s with pos := p + 8, ov := ov3, bg := p, le := k - 1 } := hL3.rd.s7 _ (k - 1) (by omega)
          have hf4 : Fr (One rb) w3 (w3.setCell ⟨rb, 7, none⟩ (.int .i64 ((k : Int) - 1))) := (Fr.refl _ _).setCell (fun _ => one_self rb) _
          refine ⟨⟨o ++ [UInt8.ofNat (Gz.val d p 8)], ov3, p, p + 8, k - 1, by omega, hl, hL3.of hf4 hr4 rfl rfl rfl, ((hfr.trans (hLr.one (hf1.trans hf2))).trans hf3).trans (hL3.one hf4), ?_⟩, ?_⟩
          · rw [HB2.out, if_neg (by omega)]
          · have e0 := HPS.out
            have e1 : leOf rb _ = k - 1 := hr4.leOf
            omega
        · go_wp2_with (go_at_call 55; refine (hL2.noz hlo (UInt8.ofNat (Gz.val d p 8)) _ (by first | exact HZ.out | (rw [← HZ.out]; omega))).mono ?_; rintro e w3 ⟨rfl, hf3⟩)
          go_ret
          refine ⟨(hfr.trans (hLr.one (hf1.trans hf2))).trans hf3.of_no, ?_⟩
          rw [HB2.out, if_pos (by omega)]
          exact ⟨⟨_, hL2.rd.fr hf3 (no_no _)⟩, Or.inr ⟨by omega, by omega, _, 0, rfl, .sent 8 (by omega) (by omega)⟩⟩
      · have HD : Hid (Gz.bytes d s.lim s.le out s.pos = .error 2) := by unfold Hid; rw [HB.out]; simp only [Gz.num, if_neg hl, Gz.Out.bind]
        go_wp2_with fail
        refine (number_short rb db { s with pos := p, ov := ov', bg := p, le := k } d 8 _ hL1.dlen (hL1.ne hL1.dbK) hr1 hL1.dat (by omega) (by omega) hl).mono ?_
        rintro e w2 ⟨⟨p', m, rfl, hp'⟩, ⟨q2, hr2⟩, hf2⟩
        go_wp2
        refine bodyPost_panic rfl ⟨hfr.trans (hLr.one (hf1.trans hf2)), ?_⟩
        rw [HD.out]
        exact ⟨⟨_, hr2⟩, Or.inl ⟨rfl, p', m, rfl, hp'⟩⟩
    · go_wp2_with (go_at_call 56; refine (endBlock_any rb _ _ hLr.rd).mono ?_; rintro e w1 ⟨rfl, hr1, hf1⟩)
      go_ret
      refine ⟨hfr.trans (hLr.one hf1), ?_⟩
      have e1 : Gz.bytes d s.lim s.le out s.pos = .ok (o, p) := by rw [← HGO.out, show k = 0 by omega]; rfl
      rw [e1]
      exact ⟨rfl, ov', bg', k, hLr.of hf1 hr1 rfl rfl rfl⟩

theorem begun_any (rb : Nat) (s : RS) (w : World) (hr : Rd w rb s) (hp : s.pos ≤ 100000) :
    Calls Tryz.prog 11 #[.pointer (some ⟨rb, 0, none⟩)] w fun e w' => e = .returned (.int .i64 ((s.pos + 7) / 8 : Nat)) ∧ w' = w := by
  have h1 := hr.c1
  go_enter Tryz.func11, Tryz.ntmps11
  go_wp2
  go_ret
  exact ⟨ret_int (by omega), rfl⟩

set_option maxRecDepth 100000 in
set_option maxHeartbeats 1600000 in
/-- The two numbers of kind 0. -/
theorem sizes_any (sp : Nat → Addr) (B rb db : Nat) (K : List Nat) (s : RS) (d out : List UInt8) (w : World) (hL : Live sp B rb db K d out w s) (hpos : s.pos ≤ 8 * d.length) :
    Calls Tryz.prog 37 #[.pointer (some ⟨rb, 0, none⟩)] w
      (Ran2 sp B rb K w (fun n q w' => n ≤ 65535 ∧ q ≤ 8 * d.length ∧ Live sp B rb db K d out w' { s with pos := q, bg := s.pos, le := n, pl := 2 })
        ((Gz.num d 16 (8 * ((s.pos + 7) / 8))).bind fun n p1 => (Gz.num d 16 p1).bind fun m p2 => if m + n ≠ 65535 then .error 4 else .ok (n, p2))) := by
  have hne := neq_err
  have hnn := neq_nil
  have k1 := hL.rd.c1
  have k2 := hL.rd.c2
  have e2 := hL.rd.fz 2
  have e1 := hL.rd.fz 1
  have hdl := hL.dlen
  have hr1 : Rd (w.setCell ⟨rb, 2, none⟩ (.int .i64 s.pos)) rb { s with bg := s.pos } := hL.rd.s2 _ _ rfl (by have := hL.dlen; omega)
  have hf1 : Fr (One rb) w (w.setCell ⟨rb, 2, none⟩ (.int .i64 s.pos)) := (Fr.refl _ _).setCell (fun _ => one_self rb) _
  have k11 := hr1.c1
  have e11 := hr1.fz 1
  obtain ⟨p0, hp0⟩ : ∃ p0, p0 = 8 * ((s.pos + 7) / 8) := ⟨_, rfl⟩
  have hp0l : p0 ≤ 8 * d.length := by omega
  rw [← hp0]
  have HP0 := hide hp0
  clear hp0
  have hr2 : Rd ((w.setCell ⟨rb, 2, none⟩ (.int .i64 s.pos)).setCell ⟨rb, 1, none⟩ (.int .i64 (8 * (((s.pos : Int) + 7) / 8)))) rb { s with bg := s.pos, pos := p0 } := hr1.s1 _ p0 (by rw [HP0.out]; omega)
  have hf2 : Fr (One rb) w ((w.setCell ⟨rb, 2, none⟩ (.int .i64 s.pos)).setCell ⟨rb, 1, none⟩ (.int .i64 (8 * (((s.pos : Int) + 7) / 8)))) := hf1.setCell (fun _ => one_self rb) _
  have hL2 := hL.of hf2 hr2 rfl rfl rfl
  go_enter Tryz.func37, Tryz.ntmps37
  go_wp2_with (go_at_call 11; refine (begun_any rb _ _ hr1 (by show s.pos ≤ _; omega)).mono ?_; rintro e w' ⟨rfl, rfl⟩)
  by_cases hl1 : p0 + 16 ≤ 8 * d.length
  · have hv1 := val_lt d p0 16
    refine (number_ok rb db _ d 16 _ hdl (hL2.ne hL2.dbK) hr2 hL2.dat (by omega) hl1).mono ?_
    rintro e w3 ⟨rfl, hr3, hf3⟩
    have hL3 := hL2.of hf3 hr3 rfl rfl rfl
    by_cases hl2 : p0 + 16 + 16 ≤ 8 * d.length
    · have hv2 := val_lt d (p0 + 16) 16
      have HD : Hid (((Gz.num d 16 p0).bind fun n p1 => (Gz.num d 16 p1).bind fun m p2 => if m + n ≠ 65535 then (Except.error 4 : Gz.Out Nat) else .ok (n, p2)) = if Gz.val d (p0 + 16) 16 + Gz.val d p0 16 ≠ 65535 then .error 4 else .ok ((Gz.val d p0 16), (p0 + 16 + 16))) := by
        unfold Hid; simp only [Gz.num, if_pos hl1, if_pos hl2, Gz.Out.bind]
      go_wp2_with fail
      refine (number_ok rb db _ d 16 _ hdl (hL3.ne hL3.dbK) hr3 hL3.dat (by omega) hl2).mono ?_
      rintro e w4 ⟨rfl, hr4, hf4⟩
      have hL4 := hL3.of hf4 hr4 rfl rfl rfl
      have k7 := hr4.c7
      have e7 := hr4.fz 7
      have k5 := hr4.c5
      have e5 := hr4.fz 5
      have hsent : w4.cell? ⟨1, 0, none⟩ = some (.iface 159 (.pointer (some (sp 4)))) := hL4.env.err 4 (by omega) (by omega)
      generalize Gz.val d p0 16 = n at *
      generalize Gz.val d (p0 + 16) 16 = m at *
      by_cases hmn : m + n = 65535
      · have hb : ((m : Int) != 65535 - (n : Int)) = false := by simp; omega
        go_wp2
        go_ret
        have hr5 := (hr4.s7 (n : Int) n rfl).s5 2 2 rfl
        have hf5 : Fr (One rb) w4 ((w4.setCell ⟨rb, 7, none⟩ (.int .i64 n)).setCell ⟨rb, 5, none⟩ (.int .i64 2)) := ((Fr.refl _ _).setCell (fun _ => one_self rb) _).setCell (fun _ => one_self rb) _
        refine ⟨hL.one (hf2.trans (hf3.trans (hf4.trans hf5))), ?_⟩
        rw [HD.out, if_neg (by omega)]
        exact ⟨rfl, by omega, hl2, hL4.of hf5 hr5 rfl rfl rfl⟩
      · have hb : ((m : Int) != 65535 - (n : Int)) = true := by simp; omega
        go_wp2
        go_ret
        refine ⟨(hL.one (hf2.trans (hf3.trans hf4))).alloc _, ?_⟩
        rw [HD.out, if_pos (by omega)]
        exact ⟨⟨_, hr4.alloc _⟩, Or.inr ⟨by omega, by omega, _, 1, rfl, .fault _ _ _ _ _ (alloc_at w4 _) (.sent 4 (by omega) (by omega))⟩⟩
    · have HD : Hid (((Gz.num d 16 p0).bind fun n p1 => (Gz.num d 16 p1).bind fun m p2 => if m + n ≠ 65535 then (Except.error 4 : Gz.Out Nat) else .ok (n, p2)) = .error 2) := by
        unfold Hid; simp only [Gz.num, if_pos hl1, if_neg hl2, Gz.Out.bind]
      go_wp2_with fail
      refine (number_short rb db _ d 16 _ hdl (hL3.ne hL3.dbK) hr3 hL3.dat (by omega) (by omega) hl2).mono ?_
      rintro e w4 ⟨⟨p', m, rfl, hp'⟩, ⟨q2, hr4⟩, hf4⟩
      go_wp2
      refine bodyPost_panic rfl ⟨hL.one (hf2.trans (hf3.trans hf4)), ?_⟩
      rw [HD.out]
      exact ⟨⟨_, hr4⟩, Or.inl ⟨rfl, p', m, rfl, hp'⟩⟩
  · have HD : Hid (((Gz.num d 16 p0).bind fun n p1 => (Gz.num d 16 p1).bind fun m p2 => if m + n ≠ 65535 then (Except.error 4 : Gz.Out Nat) else .ok (n, p2)) = .error 2) := by
      unfold Hid; simp only [Gz.num, if_neg hl1, Gz.Out.bind]
    refine (number_short rb db _ d 16 _ hdl (hL2.ne hL2.dbK) hr2 hL2.dat (by omega) (by omega) hl1).mono ?_
    rintro e w3 ⟨⟨p', m, rfl, hp'⟩, ⟨q2, hr3⟩, hf3⟩
    go_wp2
    refine bodyPost_panic rfl ⟨hL.one (hf2.trans hf3), ?_⟩
    rw [HD.out]
    exact ⟨⟨_, hr3⟩, Or.inl ⟨rfl, p', m, rfl, hp'⟩⟩
end Go.Proofs.YtobohjjkcdhfeaaGreatDoor
