import Derived.Test.YtobohjjkcdhfeaaGreatDoorObey
namespace Go.Proofs.YtobohjjkcdhfeaaGreatDoor
open Go.RowKit

/-- The bit that is taken next, off the reader's block. -/
def posOf (rb : Nat) (w : World) : Nat := match w.cell? ⟨rb, 1, none⟩ with
  | some v => (intOf v).toNat
  | none => 0
theorem Rd.posOf {w : World} {rb : Nat} {s : RS} (h : Rd w rb s) : posOf rb w = s.pos := by
  unfold Proofs.YtobohjjkcdhfeaaGreatDoor.posOf; rw [h.c1]; simp [intOf]

theorem endPl_ne (s : RS) : s.endPl ≠ 4 := by unfold RS.endPl; split <;> omega

set_option maxRecDepth 100000 in
set_option maxHeartbeats 1600000 in
theorem symbols_any (sp : Nat → Addr) (B rb db tb s1 s2 : Nat) (K : List Nat) (s : RS) (d out : List UInt8) (t : Gz.Table) (w : World) (hL : Live sp B rb db K d out w s) (hT : TableAt w K tb s1 s2 t) (hst : s.tb = .pointer (some ⟨tb, 0, none⟩)) (hpl : s.pl = 4)
    (hpos : s.pos ≤ 8 * d.length) :
    Calls Tryz.prog 40 #[.pointer (some ⟨rb, 0, none⟩)] w
      (Ran2 sp B rb K w (fun o q w' => ∃ ov' bg', Live sp B rb db K d o w' { s with pos := q, ov := ov', bg := bg', pl := s.endPl }) (Gz.syms d t s.lim out s.pos)) := by
  have hne := neq_err
  have hnn := neq_nil
  have HST := hide hst
  have HPL := hide hpl
  clear hst hpl
  go_enter Tryz.func40, Tryz.ntmps40
  go_wp2
  go_loopw [] (fun wr => ∃ (o : List UInt8) (ov' : Value) (bg' p pl' : Nat), p ≤ 8 * d.length ∧ Live sp B rb db K d o wr { s with pos := p, ov := ov', bg := bg', pl := pl' } ∧ Fr (Own B K) w wr ∧ ((pl' = 4 ∧ Gz.syms d t s.lim o p = Gz.syms d t s.lim out s.pos) ∨ (pl' = s.endPl ∧ Gz.syms d t s.lim out s.pos = .ok (o, p)))) (fun wr => 8 * d.length - posOf rb wr)
  case atStart => exact ⟨out, s.ov, s.bg, s.pos, s.pl, hpos, hL, Fr.refl _ _, Or.inl ⟨HPL.out, rfl⟩⟩
  case round =>
    obtain ⟨o, ov', bg', p, pl', hp, hLr, hfr, ⟨rfl, hgo⟩ | ⟨rfl, hgo⟩⟩ := hrel
    · have HGO := hide hgo
      clear hgo
      have k5 : wr.cell? ⟨rb, 5, none⟩ = some (.int .i64 4) := hLr.rd.c5
      have k1 := hLr.rd.c1
      have k2 := hLr.rd.c2
      have e2 := hLr.rd.fz 2
      have k8 : wr.cell? ⟨rb, 8, none⟩ = some (.pointer (some ⟨tb, 0, none⟩)) := by rw [hLr.rd.c8]; exact congrArg some HST.out
      have hr1 : Rd (wr.setCell ⟨rb, 2, none⟩ (.int .i64 p)) rb { s with pos := p, ov := ov', bg := p, pl := 4 } := hLr.rd.s2 _ p rfl (by have := hLr.dlen; omega)
      have hf1 : Fr (One rb) wr (wr.setCell ⟨rb, 2, none⟩ (.int .i64 p)) := (Fr.refl _ _).setCell (fun _ => one_self rb) _
      have hL1 := hLr.of hf1 hr1 rfl rfl rfl
      have hT1 := (hT.fr hfr).fr (hLr.one hf1)
      have hps : posOf rb wr = p := hLr.rd.posOf
      have HPS := hide hps
      clear hps
      go_wp2_with fail
      refine (symbol_any sp rb db tb 0 s1 { s with pos := p, ov := ov', bg := p, pl := 4 } d t.syms _ hL1.dlen (hL1.ne hL1.dbK) (hL1.ne hT1.k0) (hL1.ne hT1.k1) hL1.r13 hL1.env hr1 hL1.dat hT1.syms hT1.g1).mono ?_
      rintro e w2 ⟨hf2, hres⟩
      cases hs : Gz.sym d t.syms p with
      | error k =>
        have HD : Hid (Gz.syms d t s.lim out s.pos = .error k) := by
          unfold Hid; rw [← HGO.out]; exact iter_bad (by unfold Gz.symsStep; rw [hs]; rfl)
        rw [hs] at hres
        clear hs
        obtain ⟨⟨q, hr2⟩, ⟨rfl, p', m, rfl, hp'⟩ | ⟨h3, h8', v, m, rfl, hv⟩⟩ := hres
        · go_wp2
          refine bodyPost_panic rfl ⟨hfr.trans (hLr.one (hf1.trans hf2)), ?_⟩
          rw [HD.out]
          exact ⟨⟨_, hr2⟩, Or.inl ⟨rfl, p', m, rfl, hp'⟩⟩
        · obtain ⟨ty, p', rfl⟩ := hv.iface
          go_wp2
          go_ret
          refine ⟨hfr.trans (hLr.one (hf1.trans hf2)), ?_⟩
          rw [HD.out]
          exact ⟨⟨_, hr2⟩, Or.inr ⟨h3, h8', _, m, rfl, hv⟩⟩
      | ok okk =>
        obtain ⟨sy, q⟩ := okk
        have hq := sym_ok hs
        have HS := hide hs
        rw [hs] at hres
        clear hs
        obtain ⟨rfl, hr2⟩ := hres
        have hL2 := hL1.of hf2 hr2 rfl rfl rfl
        have hT2 := hT1.fr (hL1.one hf2)
        go_wp2_with fail
        refine (obey_any sp B rb db tb s1 s2 sy K { s with pos := q, ov := ov', bg := p, pl := 4 } d o t _ hL2 hT2 HST.out hq.2).mono ?_
        rintro e w3 ⟨hf3, hres⟩
        have hfw := (hfr.trans (hLr.one (hf1.trans hf2))).trans hf3
        cases hob : Gz.obey d t s.lim sy o q with
        | error k =>
          have HD : Hid (Gz.syms d t s.lim out s.pos = .error k) := by
            unfold Hid; rw [← HGO.out]; exact iter_bad (by unfold Gz.symsStep; rw [HS.out]; simp only [Gz.Out.bind]; rw [hob])
          rw [hob] at hres
          clear hob
          obtain ⟨hs', ⟨rfl, p', m, rfl, hp'⟩ | ⟨h3, h8', v, m, rfl, hv⟩⟩ := hres
          · go_wp2
            refine bodyPost_panic rfl ⟨hfw, ?_⟩
            rw [HD.out]
            exact ⟨hs', Or.inl ⟨rfl, p', m, rfl, hp'⟩⟩
          · obtain ⟨ty, p', rfl⟩ := hv.iface
            go_wp2
            go_ret
            refine ⟨hfw, ?_⟩
            rw [HD.out]
            exact ⟨hs', Or.inr ⟨h3, h8', _, m, rfl, hv⟩⟩
        | ok okk =>
          obtain ⟨x, q2⟩ := okk
          have hq2 := obey_ok hob hq.2
          obtain ⟨o2, b⟩ := x
          have hst2 : Gz.symsStep d t s.lim o p = .ok ((if b then .inr o2 else .inl o2), q2) := by
            unfold Gz.symsStep; rw [HS.out]; simp only [Gz.Out.bind]; rw [hob]
          have HST2 := hide hst2
          clear hst2
          rw [hob] at hres
          clear hob
          obtain ⟨rfl, ov3, hL3⟩ := hres
          go_wp2
          refine ⟨⟨o2, ov3, p, q2, _, hq2.2, hL3, hfw, ?_⟩, ?_⟩
          · cases b with
            | true => exact Or.inr ⟨rfl, by rw [← HGO.out]; exact iter_end HST2.out⟩
            | false => exact Or.inl ⟨rfl, by rw [← HGO.out]; exact (iter_more HST2.out (by omega) hq2.2).symm⟩
          · have e1 : posOf rb w3 = q2 := hL3.rd.posOf
            have e0 := HPS.out
            omega
    · have k5 : wr.cell? ⟨rb, 5, none⟩ = some (.int .i64 s.endPl) := hLr.rd.c5
      have hn4 := endPl_ne s
      have hb4 : ((s.endPl : Int) == 4) = false := by simp; omega
      have HGO := hide hgo
      clear hgo
      go_wp2
      go_ret
      refine ⟨hfr, ?_⟩
      rw [HGO.out]
      exact ⟨rfl, ov', bg', hLr⟩
end Go.Proofs.YtobohjjkcdhfeaaGreatDoor
