import Derived.Test.YtjjjlilflbddoaaDoorSyms
namespace Go.Proofs.YtjjjlilflbddoaaDoor
open Go.RowKit

def leOf (rb : Nat) (w : World) : Nat := match w.cell? ⟨rb, 8, none⟩ with
  | some v => (intOf v).toNat
  | none => 0
theorem Rd.leOf {w : World} {rb : Nat} {s : RS} (h : Rd w rb s) : leOf rb w = s.le := by
  unfold Proofs.YtjjjlilflbddoaaDoor.leOf; rw [h.c7]; simp [intOf]

set_option maxRecDepth 100000 in
set_option maxHeartbeats 1600000 in
theorem storedBytes_any (sp : Nat → Addr) (B rb db : Nat) (K : List Nat) (s : RS) (d : List UInt8) (m : Gz.M) (w : World) (hA : At sp B rb db K d m w s) (hpl : m.pl = 2) (hle : m.le ≤ 65535) (hpos : m.pos ≤ 8 * d.length) :
    Calls Tryd.prog 103 #[.pointer (some ⟨rb, 0, none⟩)] w (RanL sp B rb db K d m w s) := by
  have hne := neq_err
  have hnn := neq_nil
  have HA := hide hA
  clear hA
  go_enter Tryd.func103, Tryd.ntmps103
  go_wp2
  go_loopw [] (fun wr => ∃ (m' : Gz.M) (s' : RS), Lead d s.lim m m' ∧ At sp B rb db K d m' wr s' ∧ Keeps s s' ∧ Fr (Own B K) w wr ∧ m'.pl = 2 ∧ m'.le ≤ 65535) (fun wr => leOf rb wr)
  case atStart => exact ⟨m, s, Lead.refl hpos, HA.out, Keeps.refl _, Fr.refl _ _, hpl, hle⟩
  case round =>
    obtain ⟨m', s', hLd, hAr, hks, hfr, hpl', hle'⟩ := hrel
    have hLr := hAr.live
    have hp : s'.pos ≤ 8 * d.length := by rw [hAr.pos]; exact hLd.upto
    have hk : s'.le ≤ 65535 := by rw [hAr.le]; exact hle'
    have k7 := hLr.rd.c7
    have HAR := hide hAr
    have HKS := hide hks
    have HLD := hide hLd
    have HSP := hide (show s'.pos = m'.pos from hAr.pos)
    have HSL := hide (show s'.le = m'.le from hAr.le)
    have HLIM := hide (show s'.lim = s.lim from hks.lim)
    have HP2 := hide hpl'
    clear hAr hks hLd hpl' hle'
    by_cases hk0 : 0 < s'.le
    · have k1 := hLr.rd.c1
      have k2 := hLr.rd.c2
      have e2 := hLr.rd.fz 3
      have hr1 : Rd (wr.setCell ⟨rb, 3, none⟩ (.int .i64 s'.pos)) rb { s' with bg := s'.pos } := hLr.rd.s2 _ s'.pos rfl (by have := hLr.dlen; omega)
      have hf1 : Fr (One rb) wr (wr.setCell ⟨rb, 3, none⟩ (.int .i64 s'.pos)) := (Fr.refl _ _).setCell (fun _ => one_self rb) _
      have hL1 := hLr.of hf1 hr1 rfl rfl rfl
      have HPS := hide (show leOf rb wr = s'.le from hLr.rd.leOf)
      have HSTEP : Hid (Gz.step d s.lim m' = Gz.thenS (Gz.num d 8 s'.pos) m'.out (Gz.byteS s'.lim m')) := by
        unfold Hid Gz.step; rw [HP2.out]; simp only; rw [if_neg (by have := HSL.out; omega), HSP.out, HLIM.out]
      by_cases hl : s'.pos + 8 ≤ 8 * d.length
      · have hv8 := val_lt d s'.pos 8
        have HB2 : Hid (Gz.step d s.lim m' = Gz.byteS s'.lim m' (Gz.val d s'.pos 8) (s'.pos + 8)) := by
          unfold Hid; rw [HSTEP.out]; simp only [Gz.num, if_pos hl, Gz.thenS]
        go_wp2_with fail
        refine (number_ok rb db { s' with bg := s'.pos } d 8 _ hL1.dlen (hL1.ne hL1.dbK) hr1 hL1.dat (by omega) hl).mono ?_
        rintro e w2 ⟨rfl, hr2, hf2⟩
        have hL2 := hL1.of hf2 hr2 rfl rfl rfl
        have hz := ofNat_toNat (Gz.val d s'.pos 8) (by omega)
        have HZ := hide hz
        clear hz
        by_cases hlo : m'.out.length < s'.lim
        · have HD : Hid (Gz.step d s.lim m' = .ok { m' with le := m'.le - 1, out := m'.out ++ [UInt8.ofNat (Gz.val d s'.pos 8)], pos := s'.pos + 8 }) := by
            unfold Hid; rw [HB2.out]; unfold Gz.byteS; rw [if_neg (by omega)]
          go_wp2_with (go_at_call 121; refine (hL2.putz hlo (UInt8.ofNat (Gz.val d s'.pos 8)) _ (by first | exact HZ.out | (rw [← HZ.out]; omega))).mono ?_; rintro e w3 ⟨rfl, ⟨ov3, hL3⟩, hf3⟩; have k73 := hL3.rd.c7; have e73 := hL3.rd.fz 8)
          have hr4 : Rd (w3.setCell ⟨rb, 8, none⟩ (.int .i64 ((s'.le : Int) - 1))) rb { s' with bg := s'.pos, pos := s'.pos + 8, ov := ov3, le := s'.le - 1 } := hL3.rd.s7 _ (s'.le - 1) (by omega)
          have hf4 : Fr (One rb) w3 (w3.setCell ⟨rb, 8, none⟩ (.int .i64 ((s'.le : Int) - 1))) := (Fr.refl _ _).setCell (fun _ => one_self rb) _
          have hfx := ((hLr.one (hf1.trans hf2)).trans hf3).trans (hL3.one hf4)
          refine ⟨⟨_, { s' with bg := s'.pos, pos := s'.pos + 8, ov := ov3, le := s'.le - 1 }, HLD.out.trans (Lead.one HLD.out.upto HD.out (by rw [HP2.out]; decide)), ⟨hL3.of hf4 hr4 rfl rfl rfl, rfl, HAR.out.pl, HAR.out.la, ?_, HAR.out.tab.fr hfx⟩, HKS.out.trans ⟨rfl, rfl, rfl, rfl⟩, hfr.trans hfx, HP2.out, ?_⟩, ?_⟩
          · show s'.le - 1 = m'.le - 1
            rw [HSL.out]
          · show m'.le - 1 ≤ 65535
            have := HSL.out
            omega
          · have e0 := HPS.out
            have e1 : leOf rb _ = s'.le - 1 := hr4.leOf
            omega
        · have HD : Hid (Gz.step d s.lim m' = .error (8, m'.out)) := by
            unfold Hid; rw [HB2.out]; unfold Gz.byteS; rw [if_pos (by omega)]
          go_wp2_with (go_at_call 121; refine (hL2.noz hlo (UInt8.ofNat (Gz.val d s'.pos 8)) _ (by first | exact HZ.out | (rw [← HZ.out]; omega))).mono ?_; rintro e w3 ⟨rfl, hf3⟩)
          go_ret
          have hfx := (hLr.one (hf1.trans hf2)).trans hf3.of_no
          exact ⟨hfr.trans hfx, Or.inr ⟨m', _, _, HLD.out, HD.out, ⟨_, s'.pos + 8, HAR.out.to hfx (hL2.of hf3.of_no (hL2.rd.fr hf3 (no_no _)) rfl rfl rfl) rfl rfl rfl rfl rfl, HKS.out.trans ⟨rfl, rfl, rfl, rfl⟩, HSP.out⟩, Or.inr ⟨by omega, by omega, _, 0, rfl, .sent 8 (by omega) (by omega)⟩⟩⟩
      · have HD : Hid (Gz.step d s.lim m' = .error (2, m'.out)) := by unfold Hid; rw [HSTEP.out]; simp only [Gz.num, if_neg hl, Gz.thenS]
        go_wp2_with fail
        refine (number_short rb db { s' with bg := s'.pos } d 8 _ hL1.dlen (hL1.ne hL1.dbK) hr1 hL1.dat (by omega) (by omega) hl).mono ?_
        rintro e w2 ⟨⟨p', n, rfl, hp'⟩, ⟨q2, hr2⟩, hf2⟩
        go_wp2
        have hfx := hLr.one (hf1.trans hf2)
        exact bodyPost_panic rfl ⟨hfr.trans hfx, Or.inr ⟨m', _, _, HLD.out, HD.out, ⟨_, q2, HAR.out.to hfx (hL1.of hf2 hr2 rfl rfl rfl) rfl rfl rfl rfl rfl, HKS.out.trans ⟨rfl, rfl, rfl, rfl⟩, HSP.out⟩, Or.inl ⟨rfl, p', n, rfl, hp'⟩⟩⟩
    · have HD : Hid (Gz.step d s.lim m' = .ok m'.over) := by
        unfold Hid Gz.step; rw [HP2.out]; simp only; rw [if_pos (by have := HSL.out; omega)]
      go_wp2_with (go_at_call 122; refine (endBlock_any rb _ _ hLr.rd).mono ?_; rintro e w1 ⟨rfl, hr1, hf1⟩)
      go_ret
      refine ⟨hfr.trans (hLr.one hf1), Or.inl ⟨rfl, m'.over, _, HLD.out.trans (Lead.one HLD.out.upto HD.out (by rw [HP2.out]; decide)), Nat.lt_of_lt_of_le (Gz.step_less HD.out HLD.out.upto).2.2 HLD.out.less, ⟨hLr.of hf1 hr1 rfl rfl rfl, HSP.out, ?_, HAR.out.la, HSL.out, rfl⟩, HKS.out.trans ⟨rfl, rfl, rfl, rfl⟩⟩⟩
      show s'.endPl = _
      unfold RS.endPl
      rw [HAR.out.la]
      rfl
end Go.Proofs.YtjjjlilflbddoaaDoor
