import Derived.Test.YtjjjlilflbddoaaGreatDoorQSyms
namespace Go.Proofs.YtjjjlilflbddoaaGreatDoor
open Go.RowKit

def leOf (rb : Nat) (w : World) : Nat := match w.cell? ⟨rb, 8, none⟩ with
  | some v => (intOf v).toNat
  | none => 0
theorem Rd.leOf {w : World} {rb : Nat} {s : RS} (h : Rd w rb s) : leOf rb w = s.le := by
  unfold Proofs.YtjjjlilflbddoaaGreatDoor.leOf; rw [h.c7]; simp [intOf]

set_option maxRecDepth 100000 in
set_option maxHeartbeats 1600000 in
theorem storedBytes_any (sp : Nat → Addr) (B rb db : Nat) (K : List Nat) (s : RS) (d : List UInt8) (m : Gz.M) (w : World) (hA : At sp B rb db K d m w s) (hpl : m.pl = 2) (hle : m.le ≤ 65535) (hpos : m.pos ≤ 8 * d.length) :
    Calls Tryz.prog 86 #[.pointer (some ⟨rb, 0, none⟩)] w (RanL sp B rb db K d m w s) := by
  have hne := neq_err
  have hnn := neq_nil
  have HA := hide hA
  clear hA
  go_enter Tryz.func86, Tryz.ntmps86
  go_wp2
  go_loopw [] (fun wr => ∃ (m' : Gz.M) (s' : RS), Lead d s.lim m m' ∧ At sp B rb db K d m' wr s' ∧ Keeps s s' ∧ Fr (Own B K) w wr ∧ m'.pl = 2 ∧ m'.le ≤ 65535) (fun wr => leOf rb wr)
  case atStart => exact ⟨m, s, Lead.refl hpos, HA.out, Keeps.refl _, Fr.refl _ _, hpl, hle⟩
  case round =>
    obtain ⟨m', s', hLd, hAr, hks, hfr, hpl', hle'⟩ := hrel
    have hLr := hAr.live
    have hp : s'.pos ≤ 8 * d.length := by rw [hAr.pos]; exact hLd.upto
    have hk : s'.le ≤ 65535 := by rw [hAr.le]; exact hle'
    have k7 := hLr.rd.c7
    have HAR := hide hAr
    have HKS := hide hks
    have HLD := hide hLd
    have HSP := hide (show s'.pos = m'.pos from hAr.pos)
    have HSL := hide (show s'.le = m'.le from hAr.le)
    have HLIM := hide (show s'.lim = s.lim from hks.lim)
    have HP2 := hide hpl'
    clear hAr hks hLd hpl' hle'
    by_cases hk0 : 0 < s'.le
    · have k1 := hLr.rd.c1
      have k2 := hLr.rd.c2
      have e2 := hLr.rd.fz 3
      have hr1 : Rd (wr.setCell ⟨rb, 3, none⟩ (.int .i64 s'.pos)) rb { s' with bg := s'.pos } := hLr.rd.s2 _ s'.pos rfl (by have := hLr.dlen; omega)
      have hf1 : Fr (One rb) wr (wr.setCell ⟨rb, 3, none⟩ (.int .i64 s'.pos)) := (Fr.refl _ _).setCell (fun _ => one_self rb) _
      have hL1 := hLr.of hf1 hr1 rfl rfl rfl
      have HPS := hide (show leOf rb wr = s'.le from hLr.rd.leOf)
      have HSTEP : Hid (Gz.step d s.lim m' = Gz.thenS (Gz.num d 8 s'.pos) m'.out (Gz.byteS s'.lim m')) := by
        unfold Hid Gz.step; rw [HP2.out]; simp only; rw [if_neg (by have := HSL.out; omega), HSP.out, HLIM.out]
      by_cases hl : s'.pos + 8 ≤ 8 * d.length
      · have hv8 := val_lt d s'.pos 8
        have HB2 : Hid (Gz.step d s.lim m' = Gz.byteS s'.lim m' (Gz.val d s'.pos 8) (s'.pos + 8)) := by
          unfold Hid; rw [HSTEP.out]; simp only [Gz.num, if_pos hl, Gz.thenS]
        go_wp2_with fail
        refine (number_ok rb db { s' with bg := s'.pos } d 8 _ hL1.dlen (hL1.ne hL1.dbK) hr1 hL1.dat (by omega) hl).mono ?_
        rintro e w2 ⟨rfl, hr2, hf2⟩
        have hL2 := hL1.of hf2 hr2 rfl rfl rfl
        have hz := ofNat_toNat (Gz.val d s'.pos 8) (by omega)
        have HZ := hide hz
        clear hz
        by_cases hlo : m'.out.length < s'.lim
        · have HD : Hid (Gz.step d s.lim m' = .ok { m' with le := m'.le - 1, out := m'.out ++ [UInt8.ofNat (Gz.val d s'.pos 8)], pos := s'.pos + 8 }) := by
            unfold Hid; rw [HB2.out]; unfold Gz.byteS; rw [if_neg (by omega)]
          go_wp2_with (go_at_call 112; refine (hL2.putz hlo (UInt8.ofNat (Gz.val d s'.pos 8)) _ (by first | exact HZ.out | (rw [← HZ.out]; omega))).mono ?_; rintro e w3 ⟨rfl, ⟨ov3, hL3⟩, hf3⟩; have k73 := hL3.rd.c7; have e73 := hL3.rd.fz 8)
          have hr4 : Rd (w3.setCell ⟨rb, 8, none⟩ (.int .i64 ((s'.le : Int) - 1))) rb { s' with bg := s'.pos, pos := s'.pos + 8, ov := ov3, le := s'.le - 1 } := hL3.rd.s7 _ (s'.le - 1) (by omega)
          have hf4 : Fr (One rb) w3 (w3.setCell ⟨rb, 8, none⟩ (.int .i64 ((s'.le : Int) - 1))) := (Fr.refl _ _).setCell (fun _ => one_self rb) _
          have hfx := ((hLr.one (hf1.trans hf2)).trans hf3).trans (hL3.one hf4)
          refine ⟨⟨_, { s' with bg := s'.pos, pos := s'.pos + 8, ov := ov3, le := s'.le - 1 }, HLD.out.trans (Lead.one HLD.out.upto HD.out (by rw [HP2.out]; decide)), ⟨hL3.of hf4 hr4 rfl rfl rfl, rfl, HAR.out.pl, HAR.out.la, ?_, HAR.out.tab.fr hfx⟩, HKS.out.trans ⟨rfl, rfl, rfl, rfl⟩, hfr.trans hfx, HP2.out, ?_⟩, ?_⟩
          · show s'.le - 1 = m'.le - 1
            rw [HSL.out]
          · show m'.le - 1 ≤ 65535
            have := HSL.out
            omega
          · have e0 := HPS.out
            have e1 : leOf rb _ = s'.le - 1 := hr4.leOf
            omega
        · have HD : Hid (Gz.step d s.lim m' = .error (8, m'.out)) := by
            unfold Hid; rw [HB2.out]; unfold Gz.byteS; rw [if_pos (by omega)]
          go_wp2_with (go_at_call 112; refine (hL2.noz hlo (UInt8.ofNat (Gz.val d s'.pos 8)) _ (by first | exact HZ.out | (rw [← HZ.out]; omega))).mono ?_; rintro e w3 ⟨rfl, hf3⟩)
          go_ret
          have hfx := (hLr.one (hf1.trans hf2)).trans hf3.of_no
          exact ⟨hfr.trans hfx, Or.inr ⟨m', _, _, HLD.out, HD.out, ⟨_, s'.pos + 8, HAR.out.to hfx (hL2.of hf3.of_no (hL2.rd.fr hf3 (no_no _)) rfl rfl rfl) rfl rfl rfl rfl rfl, HKS.out.trans ⟨rfl, rfl, rfl, rfl⟩, HSP.out⟩, Or.inr ⟨by omega, by omega, _, 0, rfl, .sent 8 (by omega) (by omega)⟩⟩⟩
      · have HD : Hid (Gz.step d s.lim m' = .error (2, m'.out)) := by unfold Hid; rw [HSTEP.out]; simp only [Gz.num, if_neg hl, Gz.thenS]
        go_wp2_with fail
        refine (number_short rb db { s' with bg := s'.pos } d 8 _ hL1.dlen (hL1.ne hL1.dbK) hr1 hL1.dat (by omega) (by omega) hl).mono ?_
        rintro e w2 ⟨⟨p', n, rfl, hp'⟩, ⟨q2, hr2⟩, hf2⟩
        go_wp2
        have hfx := hLr.one (hf1.trans hf2)
        exact bodyPost_panic rfl ⟨hfr.trans hfx, Or.inr ⟨m', _, _, HLD.out, HD.out, ⟨_, q2, HAR.out.to hfx (hL1.of hf2 hr2 rfl rfl rfl) rfl rfl rfl rfl rfl, HKS.out.trans ⟨rfl, rfl, rfl, rfl⟩, HSP.out⟩, Or.inl ⟨rfl, p', n, rfl, hp'⟩⟩⟩
    · have HD : Hid (Gz.step d s.lim m' = .ok m'.over) := by
        unfold Hid Gz.step; rw [HP2.out]; simp only; rw [if_pos (by have := HSL.out; omega)]
      go_wp2_with (go_at_call 113; refine (endBlock_any rb _ _ hLr.rd).mono ?_; rintro e w1 ⟨rfl, hr1, hf1⟩)
      go_ret
      refine ⟨hfr.trans (hLr.one hf1), Or.inl ⟨rfl, m'.over, _, HLD.out.trans (Lead.one HLD.out.upto HD.out (by rw [HP2.out]; decide)), Nat.lt_of_lt_of_le (Gz.step_less HD.out HLD.out.upto).2.2 HLD.out.less, ⟨hLr.of hf1 hr1 rfl rfl rfl, HSP.out, ?_, HAR.out.la, HSL.out, rfl⟩, HKS.out.trans ⟨rfl, rfl, rfl, rfl⟩⟩⟩
      show s'.endPl = _
      unfold RS.endPl
      rw [HAR.out.la]
      rfl
end Go.Proofs.YtjjjlilflbddoaaGreatDoor
namespace Go.Proofs.YtjjjlilflbddoaaGreatDoor
open Go.RowKit

/-- How one step from m, its beginning marked, comes to its end. -/
def RanB (sp : Nat → Addr) (B rb db : Nat) (K : List Nat) (d : List UInt8) (m : Gz.M) (w : World) (s : RS) (e : Ending) (w' : World) : Prop :=
  Fr (Own B K) w w' ∧ match Gz.step d s.lim m with
  | .ok m' => e = .returned .nilIface ∧ ∃ s', At sp B rb db K d m' w' s' ∧ Keeps s s'
  | .error (k, o) => (∃ s' q, At sp B rb db K d { m with out := o, pos := q } w' s' ∧ Keeps s s' ∧ s'.bg = m.pos) ∧ ((k = 2 ∧ ShortP w' e) ∨ (3 ≤ k ∧ k ≤ 8 ∧ ∃ v n, e = .returned v ∧ Err sp w' v k n))

theorem begun_any (p : Nat) (w : World) (hp : p ≤ 100000) :
    Calls Tryz.prog 40 #[.int .i64 (p : Nat)] w fun e w' => e = .returned (.int .i64 ((p + 7) / 8 : Nat)) ∧ w' = w := by
  go_enter Tryz.func40, Tryz.ntmps40
  go_wp2
  go_ret
  exact ⟨ret_int (by omega), rfl⟩

set_option maxRecDepth 100000 in
set_option maxHeartbeats 1600000 in
/-- The two numbers of kind 0. -/
theorem sizes_any (sp : Nat → Addr) (B rb db : Nat) (K : List Nat) (s : RS) (d : List UInt8) (m0 : Gz.M) (w : World) (hA : At sp B rb db K d m0 w s) (hpl : m0.pl = 1) (hpos : m0.pos ≤ 8 * d.length) :
    Calls Tryz.prog 85 #[.pointer (some ⟨rb, 0, none⟩)] w (RanB sp B rb db K d m0 w s) := by
  have hL := hA.live
  have HA := hide hA
  have HSP := hide (show s.pos = m0.pos from hA.pos)
  have hpos : s.pos ≤ 8 * d.length := by rw [hA.pos]; exact hpos
  have HSTEP : Hid (Gz.step d s.lim m0 = Gz.thenS ((Gz.num d 16 (8 * ((s.pos + 7) / 8))).bind fun n p1 => (Gz.num d 16 p1).bind fun m p2 => if m + n ≠ 65535 then .error 4 else .ok (n, p2)) m0.out fun n q => .ok { m0 with pl := 2, le := n, pos := q }) := by
    unfold Hid Gz.step; rw [hpl, hA.pos]; rfl
  clear hA hpl
  have hne := neq_err
  have hnn := neq_nil
  have k1 := hL.rd.c1
  have k2 := hL.rd.c2
  have e2 := hL.rd.fz 3
  have e1 := hL.rd.fz 2
  have hdl := hL.dlen
  have hr1 : Rd (w.setCell ⟨rb, 3, none⟩ (.int .i64 s.pos)) rb { s with bg := s.pos } := hL.rd.s2 _ _ rfl (by have := hL.dlen; omega)
  have hf1 : Fr (One rb) w (w.setCell ⟨rb, 3, none⟩ (.int .i64 s.pos)) := (Fr.refl _ _).setCell (fun _ => one_self rb) _
  have k11 := hr1.c1
  have e11 := hr1.fz 2
  obtain ⟨p0, hp0⟩ : ∃ p0, p0 = 8 * ((s.pos + 7) / 8) := ⟨_, rfl⟩
  have hp0l : p0 ≤ 8 * d.length := by omega
  rw [← hp0] at HSTEP
  have HP0 := hide hp0
  clear hp0
  have hr2 : Rd ((w.setCell ⟨rb, 3, none⟩ (.int .i64 s.pos)).setCell ⟨rb, 2, none⟩ (.int .i64 (8 * (((s.pos : Int) + 7) / 8)))) rb { s with bg := s.pos, pos := p0 } := hr1.s1 _ p0 (by rw [HP0.out]; omega) (by have := hL.dat.top; show p0 ≤ s.top; omega)
  have hf2 : Fr (One rb) w ((w.setCell ⟨rb, 3, none⟩ (.int .i64 s.pos)).setCell ⟨rb, 2, none⟩ (.int .i64 (8 * (((s.pos : Int) + 7) / 8)))) := hf1.setCell (fun _ => one_self rb) _
  have hL2 := hL.of hf2 hr2 rfl rfl rfl
  go_enter Tryz.func85, Tryz.ntmps85
  go_wp2_with (go_at_call 40; refine (begun_any s.pos _ (by omega)).mono ?_; rintro e w' ⟨rfl, rfl⟩)
  by_cases hl1 : p0 + 16 ≤ 8 * d.length
  · have hv1 := val_lt d p0 16
    refine (number_ok rb db _ d 16 _ hdl (hL2.ne hL2.dbK) hr2 hL2.dat (by omega) hl1).mono ?_
    rintro e w3 ⟨rfl, hr3, hf3⟩
    have hL3 := hL2.of hf3 hr3 rfl rfl rfl
    by_cases hl2 : p0 + 16 + 16 ≤ 8 * d.length
    · have hv2 := val_lt d (p0 + 16) 16
      have HD : Hid (Gz.step d s.lim m0 = Gz.thenS (if Gz.val d (p0 + 16) 16 + Gz.val d p0 16 ≠ 65535 then .error 4 else .ok ((Gz.val d p0 16), (p0 + 16 + 16))) m0.out fun n q => .ok { m0 with pl := 2, le := n, pos := q }) := by
        unfold Hid; rw [HSTEP.out]; simp only [Gz.num, if_pos hl1, if_pos hl2, Gz.Out.bind]
      go_wp2_with fail
      refine (number_ok rb db _ d 16 _ hdl (hL3.ne hL3.dbK) hr3 hL3.dat (by omega) hl2).mono ?_
      rintro e w4 ⟨rfl, hr4, hf4⟩
      have hL4 := hL3.of hf4 hr4 rfl rfl rfl
      have k7 := hr4.c7
      have e7 := hr4.fz 8
      have k5 := hr4.c5
      have e5 := hr4.fz 6
      have hsent : w4.cell? ⟨1, 0, none⟩ = some (.iface 248 (.pointer (some (sp 4)))) := hL4.env.err 4 (by omega) (by omega)
      generalize Gz.val d p0 16 = n at *
      generalize Gz.val d (p0 + 16) 16 = m at *
      by_cases hmn : m + n = 65535
      · have hb : ((m : Int) != 65535 - (n : Int)) = false := by simp; omega
        go_wp2
        go_ret
        have hr5 := (hr4.s7 (n : Int) n rfl).s5 2 2 rfl
        have hf5 : Fr (One rb) w4 ((w4.setCell ⟨rb, 8, none⟩ (.int .i64 n)).setCell ⟨rb, 6, none⟩ (.int .i64 2)) := ((Fr.refl _ _).setCell (fun _ => one_self rb) _).setCell (fun _ => one_self rb) _
        refine ⟨hL.one (hf2.trans (hf3.trans (hf4.trans hf5))), ?_⟩
        rw [HD.out, if_neg (by omega)]
        exact ⟨rfl, _, ⟨hL4.of hf5 hr5 rfl rfl rfl, rfl, rfl, HA.out.la, rfl, HA.out.tab.fr (hL.one (hf2.trans (hf3.trans (hf4.trans hf5))))⟩, ⟨rfl, rfl, rfl, rfl⟩⟩
      · have hb : ((m : Int) != 65535 - (n : Int)) = true := by simp; omega
        go_wp2
        go_ret
        refine ⟨(hL.one (hf2.trans (hf3.trans hf4))).alloc _, ?_⟩
        rw [HD.out, if_pos (by omega)]
        exact ⟨⟨_, _, HA.out.to ((hL.one (hf2.trans (hf3.trans hf4))).alloc _) (hL4.of ((Fr.refl _ _).alloc _) (hr4.alloc _) rfl rfl rfl) rfl rfl rfl rfl rfl, ⟨rfl, rfl, rfl, rfl⟩, HSP.out⟩, Or.inr ⟨by omega, by omega, _, 1, rfl, .fault _ _ _ _ _ (alloc_at w4 _) (.sent 4 (by omega) (by omega))⟩⟩
    · have HD : Hid (Gz.step d s.lim m0 = .error (2, m0.out)) := by
        unfold Hid; rw [HSTEP.out]; simp only [Gz.num, if_pos hl1, if_neg hl2, Gz.Out.bind, Gz.thenS]
      go_wp2_with fail
      refine (number_short rb db _ d 16 _ hdl (hL3.ne hL3.dbK) hr3 hL3.dat (by omega) (by omega) hl2).mono ?_
      rintro e w4 ⟨⟨p', m, rfl, hp'⟩, ⟨q2, hr4⟩, hf4⟩
      go_wp2
      refine bodyPost_panic rfl ⟨hL.one (hf2.trans (hf3.trans hf4)), ?_⟩
      rw [HD.out]
      exact ⟨⟨_, q2, HA.out.to (hL.one (hf2.trans (hf3.trans hf4))) (hL3.of hf4 hr4 rfl rfl rfl) rfl rfl rfl rfl rfl, ⟨rfl, rfl, rfl, rfl⟩, HSP.out⟩, Or.inl ⟨rfl, p', m, rfl, hp'⟩⟩
  · have HD : Hid (Gz.step d s.lim m0 = .error (2, m0.out)) := by
      unfold Hid; rw [HSTEP.out]; simp only [Gz.num, if_neg hl1, Gz.Out.bind, Gz.thenS]
    refine (number_short rb db _ d 16 _ hdl (hL2.ne hL2.dbK) hr2 hL2.dat (by omega) (by omega) hl1).mono ?_
    rintro e w3 ⟨⟨p', m, rfl, hp'⟩, ⟨q2, hr3⟩, hf3⟩
    go_wp2
    refine bodyPost_panic rfl ⟨hL.one (hf2.trans hf3), ?_⟩
    rw [HD.out]
    exact ⟨⟨_, q2, HA.out.to (hL.one (hf2.trans hf3)) (hL2.of hf3 hr3 rfl rfl rfl) rfl rfl rfl rfl rfl, ⟨rfl, rfl, rfl, rfl⟩, HSP.out⟩, Or.inl ⟨rfl, p', m, rfl, hp'⟩⟩
end Go.Proofs.YtjjjlilflbddoaaGreatDoor
