import Derived.Test.YtjjjlilflbddoaaGreatDoorObey
namespace Go.Proofs.YtjjjlilflbddoaaGreatDoor
open Go.RowKit

/-- The bit that is taken next, off the reader's block. -/
def posOf (rb : Nat) (w : World) : Nat := match w.cell? ⟨rb, 2, none⟩ with
  | some v => (intOf v).toNat
  | none => 0
theorem Rd.posOf {w : World} {rb : Nat} {s : RS} (h : Rd w rb s) : posOf rb w = s.pos := by
  unfold Proofs.YtjjjlilflbddoaaGreatDoor.posOf; rw [h.c1]; simp [intOf]

/-- What every place of the machine keeps. -/
structure Sound (m : Gz.M) : Prop where
  pl : m.pl ≤ 5
  tab : m.pl = 4 → ∃ t, m.tab = some t
  le : m.pl = 2 → m.le ≤ 65535
theorem sound_start : Sound Gz.M.start := ⟨by decide, fun h => absurd h (by decide), fun h => absurd h (by decide)⟩
theorem sound_over (m : Gz.M) : Sound m.over := by
  have h : m.over.pl = 5 ∨ m.over.pl = 0 := by show (if m.la then 5 else 0) = 5 ∨ (if m.la then 5 else 0) = 0; cases m.la <;> simp
  exact ⟨by omega, fun h' => by omega, fun h' => by omega⟩
theorem step_sound {d : List UInt8} {lim : Nat} {m m' : Gz.M} (h : Gz.step d lim m = .ok m') (hs : Sound m) : Sound m' ∧ (m.pl ≠ 3 → m'.asks = m.asks) := by
  unfold Gz.step at h
  split at h
  · obtain ⟨x, q, h1, h⟩ := Gz.thenS_ok h
    unfold Gz.headS at h
    split at h
    · cases h; exact ⟨⟨by show 1 ≤ 5; omega, fun h => (by simp at h), fun h => (by simp at h)⟩, fun _ => rfl⟩
    split at h
    · cases h; exact ⟨⟨by show 4 ≤ 5; omega, fun _ => ⟨_, rfl⟩, fun h => (by simp at h)⟩, fun _ => rfl⟩
    split at h
    · cases h; exact ⟨⟨by show 3 ≤ 5; omega, fun h => (by simp at h), fun h => (by simp at h)⟩, fun _ => rfl⟩
    · cases h
  · obtain ⟨x, q, h1, h⟩ := Gz.thenS_ok h
    cases h
    refine ⟨⟨by show 2 ≤ 5; omega, fun h => (by simp at h), fun _ => ?_⟩, fun _ => rfl⟩
    show x ≤ 65535
    obtain ⟨a, p1, h2, h1⟩ := Gz.bind_ok h1
    obtain ⟨k, p2, h3, h1⟩ := Gz.bind_ok h1
    split at h1
    · cases h1
    · cases h1; omega
  · rename_i hpl
    split at h
    · cases h; exact ⟨sound_over m, fun _ => rfl⟩
    · obtain ⟨x, q, h1, h⟩ := Gz.thenS_ok h
      unfold Gz.byteS at h
      split at h
      · cases h
      · cases h
        refine ⟨⟨hs.pl, fun h => hs.tab h, fun h => ?_⟩, fun _ => rfl⟩
        have := hs.le h
        show m.le - 1 ≤ 65535
        omega
  · rename_i hpl
    obtain ⟨x, q, h1, h⟩ := Gz.thenS_ok h
    cases h
    exact ⟨⟨by show 4 ≤ 5; omega, fun _ => ⟨_, rfl⟩, fun h => (by simp at h)⟩, fun h => absurd hpl h⟩
  · rename_i hpl
    split at h
    · cases h
    · obtain ⟨x, q, h1, h⟩ := Gz.thenS_ok h
      unfold Gz.obeyS at h
      split at h
      · split at h
        · cases h
        · cases h; exact ⟨⟨hs.pl, fun h => hs.tab h, fun h => hs.le h⟩, fun _ => rfl⟩
      split at h
      · cases h; exact ⟨⟨(sound_over m).pl, fun h => (sound_over m).tab h, fun h => (sound_over m).le h⟩, fun _ => rfl⟩
      split at h
      · obtain ⟨x, q, _, h⟩ := Gz.thenS_ok h
        unfold Gz.copyS at h
        split at h
        · cases h
        split at h
        · cases h
        · cases h; exact ⟨⟨hs.pl, fun h => hs.tab h, fun h => hs.le h⟩, fun _ => rfl⟩
      · cases h
  · cases h

/-- Steps lead from m to m'. -/
structure Lead (d : List UInt8) (lim : Nat) (m m' : Gz.M) : Prop where
  same : Gz.final d lim m = Gz.final d lim m'
  upto : m'.pos ≤ 8 * d.length
  on : m.pos ≤ m'.pos
  less : Gz.rank d m' ≤ Gz.rank d m
  sound : Sound m → Sound m'
  asks : m'.asks = m.asks
theorem Lead.refl {d : List UInt8} {lim : Nat} {m : Gz.M} (h : m.pos ≤ 8 * d.length) : Lead d lim m m := ⟨rfl, h, Nat.le_refl _, Nat.le_refl _, id, rfl⟩
theorem Lead.trans {d : List UInt8} {lim : Nat} {m m' m2 : Gz.M} (h : Lead d lim m m') (h2 : Lead d lim m' m2) : Lead d lim m m2 := ⟨h.same.trans h2.same, h2.upto, Nat.le_trans h.on h2.on, Nat.le_trans h2.less h.less, fun s => h2.sound (h.sound s), h2.asks.trans h.asks⟩
theorem step_asks {d : List UInt8} {lim : Nat} {m m' : Gz.M} (h : Gz.step d lim m = .ok m') (hp : m.pl ≠ 3) : m'.asks = m.asks := by
  unfold Gz.step at h
  split at h
  · obtain ⟨x, q, h1, h⟩ := Gz.thenS_ok h
    unfold Gz.headS at h
    split at h
    · cases h; rfl
    split at h
    · cases h; rfl
    split at h
    · cases h; rfl
    · cases h
  · obtain ⟨x, q, h1, h⟩ := Gz.thenS_ok h
    cases h; rfl
  · split at h
    · cases h; rfl
    · obtain ⟨x, q, h1, h⟩ := Gz.thenS_ok h
      unfold Gz.byteS at h
      split at h
      · cases h
      · cases h; rfl
  · rename_i hpl; exact absurd hpl hp
  · split at h
    · cases h
    · obtain ⟨x, q, h1, h⟩ := Gz.thenS_ok h
      unfold Gz.obeyS at h
      split at h
      · split at h
        · cases h
        · cases h; rfl
      split at h
      · cases h; rfl
      split at h
      · obtain ⟨x, q, _, h⟩ := Gz.thenS_ok h
        unfold Gz.copyS at h
        split at h
        · cases h
        split at h
        · cases h
        · cases h; rfl
      · cases h
  · cases h
theorem Lead.one {d : List UInt8} {lim : Nat} {m m' : Gz.M} (h : m.pos ≤ 8 * d.length) (h2 : Gz.step d lim m = .ok m') (hp : m.pl ≠ 3) : Lead d lim m m' :=
  have e := Gz.step_less h2 h
  ⟨Gz.final_ok h2 h, e.2.1, e.1, Nat.le_of_lt e.2.2, fun s => (step_sound h2 s).1, step_asks h2 hp⟩

/-- How a part that makes steps from m on comes to its end. -/
def RanL (sp : Nat → Addr) (B rb db : Nat) (K : List Nat) (d : List UInt8) (m : Gz.M) (w : World) (s : RS) (e : Ending) (w' : World) : Prop :=
  Fr (Own B K) w w' ∧ ((e = .returned .nilIface ∧ ∃ m' s', Lead d s.lim m m' ∧ Gz.rank d m' < Gz.rank d m ∧ At sp B rb db K d m' w' s' ∧ Keeps s s') ∨
    ∃ m1 k o, Lead d s.lim m m1 ∧ Gz.step d s.lim m1 = .error (k, o) ∧ (∃ s' q, At sp B rb db K d { m1 with out := o, pos := q } w' s' ∧ Keeps s s' ∧ s'.bg = m1.pos) ∧
      ((k = 2 ∧ ShortP w' e) ∨ (3 ≤ k ∧ k ≤ 8 ∧ ∃ v n, e = .returned v ∧ Err sp w' v k n)))

theorem obeyS_tab {d : List UInt8} {lim : Nat} {t : Gz.Table} {m m2 : Gz.M} {sy p : Nat} (h : Gz.obeyS d lim t m sy p = .ok m2) : (m2.pl = m.pl ∧ m2.tab = m.tab) ∨ m2.pl ≠ 4 := by
  unfold Gz.obeyS at h
  split at h
  · split at h
    · cases h
    · cases h; exact Or.inl ⟨rfl, rfl⟩
  split at h
  · cases h; exact Or.inr (by show (if m.la then 5 else 0) ≠ 4; cases m.la <;> decide)
  split at h
  · obtain ⟨x, q, _, h⟩ := Gz.thenS_ok h
    unfold Gz.copyS at h
    split at h
    · cases h
    split at h
    · cases h
    · cases h; exact Or.inl ⟨rfl, rfl⟩
  · cases h

set_option maxRecDepth 100000 in
set_option maxHeartbeats 1600000 in
theorem symbols_any (sp : Nat → Addr) (B rb db : Nat) (K : List Nat) (s : RS) (d : List UInt8) (m : Gz.M) (t : Gz.Table) (w : World) (hA : At sp B rb db K d m w s) (hpl : m.pl = 4) (ht : m.tab = some t) (hpos : m.pos ≤ 8 * d.length) :
    Calls Tryz.prog 88 #[.pointer (some ⟨rb, 0, none⟩)] w (RanL sp B rb db K d m w s) := by
  have hne := neq_err
  have hnn := neq_nil
  have HA := hide hA
  have HPL := hide hpl
  have HT := hide ht
  clear hA hpl ht
  go_enter Tryz.func88, Tryz.ntmps88
  go_wp2
  go_loopw [] (fun wr => ∃ (m' : Gz.M) (s' : RS), Lead d s.lim m m' ∧ At sp B rb db K d m' wr s' ∧ Keeps s s' ∧ Fr (Own B K) w wr ∧ ((m'.pl = 4 ∧ m'.tab = some t) ∨ (m'.pl ≠ 4 ∧ Gz.rank d m' < Gz.rank d m))) (fun wr => 8 * d.length - posOf rb wr)
  case atStart => exact ⟨m, s, Lead.refl hpos, HA.out, Keeps.refl _, Fr.refl _ _, Or.inl ⟨HPL.out, HT.out⟩⟩
  case round =>
    obtain ⟨m', s', hLd, hAr, hks, hfr, ⟨hpl', ht'⟩ | ⟨hpl', hrk⟩⟩ := hrel
    · have hLr := hAr.live
      have hp : s'.pos ≤ 8 * d.length := by rw [hAr.pos]; exact hLd.upto
      obtain ⟨tb, s1, s2, hst, hT⟩ : ∃ tb s1 s2, s'.tb = .pointer (some ⟨tb, 0, none⟩) ∧ TableAt wr K tb s1 s2 t := by have := hAr.tab; rw [ht'] at this; exact this
      have k5 : wr.cell? ⟨rb, 6, none⟩ = some (.int .i64 4) := by rw [hLr.rd.c5, hAr.pl, hpl']; rfl
      have k1 := hLr.rd.c1
      have k2 := hLr.rd.c2
      have e2 := hLr.rd.fz 3
      have k8 : wr.cell? ⟨rb, 9, none⟩ = some (.pointer (some ⟨tb, 0, none⟩)) := by rw [hLr.rd.c8]; exact congrArg some hst
      have hr1 : Rd (wr.setCell ⟨rb, 3, none⟩ (.int .i64 s'.pos)) rb { s' with bg := s'.pos } := hLr.rd.s2 _ s'.pos rfl (by have := hLr.dlen; omega)
      have hf1 : Fr (One rb) wr (wr.setCell ⟨rb, 3, none⟩ (.int .i64 s'.pos)) := (Fr.refl _ _).setCell (fun _ => one_self rb) _
      have hL1 := hLr.of hf1 hr1 rfl rfl rfl
      have hT1 := hT.fr (hLr.one hf1)
      have HPS := hide (show posOf rb wr = s'.pos from hLr.rd.posOf)
      have hstep : Gz.step d s.lim m' = Gz.thenS (Gz.sym d t.syms m'.pos) m'.out (Gz.obeyS d s.lim t m') := by
        unfold Gz.step; rw [hpl']; simp only [ht']
      have HSTEP := hide hstep
      have HAR := hide hAr
      have HKS := hide hks
      have HLD := hide hLd
      have HTB := hide ht'
      have HP4 := hide hpl'
      have HSP := hide (show s'.pos = m'.pos from hAr.pos)
      clear hstep hAr hks hLd ht' hpl' hst
      go_wp2_with fail
      refine (symbol_any sp rb db tb 0 s1 { s' with bg := s'.pos } d t.syms _ hL1.dlen (hL1.ne hL1.dbK) (hL1.ne hT1.k0) (hL1.ne hT1.k1) hL1.r13 hL1.env hr1 hL1.dat hT1.syms hT1.g1).mono ?_
      rintro e w2 ⟨hf2, hres⟩
      have hfw := hfr.trans (hLr.one (hf1.trans hf2))
      simp only at hres
      rw [HSP.out] at hres
      cases hs : Gz.sym d t.syms m'.pos with
      | error k =>
        have HD : Hid (Gz.step d s.lim m' = .error (k, m'.out)) := by unfold Hid; rw [HSTEP.out, hs]; rfl
        rw [hs] at hres
        clear hs
        obtain ⟨⟨q, hr2⟩, hres⟩ := hres
        have HA2 := hide (HAR.out.to (hLr.one (hf1.trans hf2)) (q := q) (hL1.of hf2 hr2 rfl rfl rfl) rfl rfl rfl rfl rfl)
        obtain ⟨rfl, p', n, rfl, hp'⟩ | ⟨h3, h8', v, n, rfl, hv⟩ := hres
        · go_wp2
          refine bodyPost_panic rfl ⟨hfw, Or.inr ⟨m', _, _, HLD.out, HD.out, ⟨_, q, HA2.out, HKS.out.trans ⟨rfl, rfl, rfl, rfl⟩, rfl⟩, Or.inl ⟨rfl, p', n, rfl, hp'⟩⟩⟩
        · obtain ⟨ty, p', rfl⟩ := hv.iface
          go_wp2
          go_ret
          exact ⟨hfw, Or.inr ⟨m', _, _, HLD.out, HD.out, ⟨_, q, HA2.out, HKS.out.trans ⟨rfl, rfl, rfl, rfl⟩, rfl⟩, Or.inr ⟨h3, h8', _, n, rfl, hv⟩⟩⟩
      | ok okk =>
        obtain ⟨sy, q⟩ := okk
        have hq := sym_ok hs
        have HD : Hid (Gz.step d s.lim m' = Gz.obeyS d s.lim t m' sy q) := by unfold Hid; rw [HSTEP.out, hs]; rfl
        rw [hs] at hres
        clear hs
        obtain ⟨rfl, hr2⟩ := hres
        have hA2 := HAR.out.to (hLr.one (hf1.trans hf2)) (q := q) (hL1.of hf2 hr2 rfl rfl rfl) rfl rfl rfl rfl rfl
        go_wp2_with fail
        refine (obey_any sp B rb db sy K _ d _ t _ hA2 HTB.out hq.2).mono ?_
        rintro e w3 ⟨hf3, hres⟩
        have hfw3 := hfw.trans hf3
        have hlim : s'.lim = s.lim := HKS.out.lim
        simp only at hres
        rw [hlim] at hres
        have hD2 : Gz.step d s.lim m' = Gz.obeyS d s.lim t { m' with out := m'.out, pos := q } sy q := HD.out
        cases hob : Gz.obeyS d s.lim t { m' with out := m'.out, pos := q } sy q with
        | error ko =>
          obtain ⟨k, o⟩ := ko
          have HD3 : Hid (Gz.step d s.lim m' = .error (k, o)) := hD2.trans hob
          rw [hob] at hres
          clear hob hD2
          obtain ⟨⟨s3, q3, hA3, hk3, hb3⟩, hres⟩ := hres
          have HA3 := hide hA3
          have HB3 := hide (show s3.bg = m'.pos from hb3)
          have HK3 : Hid (Keeps s s3) := ⟨hk3.dv.trans HKS.out.dv, hk3.ps.trans HKS.out.ps, hk3.lim, hk3.ts.trans HKS.out.ts⟩
          clear hA3 hb3 hk3
          obtain ⟨rfl, p', n, rfl, hp'⟩ | ⟨h3, h8', v, n, rfl, hv⟩ := hres
          · go_wp2
            refine bodyPost_panic rfl ⟨hfw3, Or.inr ⟨m', _, _, HLD.out, HD3.out, ⟨s3, q3, HA3.out, HK3.out, HB3.out⟩, Or.inl ⟨rfl, p', n, rfl, hp'⟩⟩⟩
          · obtain ⟨ty, p', rfl⟩ := hv.iface
            go_wp2
            go_ret
            exact ⟨hfw3, Or.inr ⟨m', _, _, HLD.out, HD3.out, ⟨s3, q3, HA3.out, HK3.out, HB3.out⟩, Or.inr ⟨h3, h8', _, n, rfl, hv⟩⟩⟩
        | ok m2 =>
          have HD3 : Hid (Gz.step d s.lim m' = .ok m2) := hD2.trans hob
          have HOK := hide (Gz.obeyS_ok hob hq.2)
          have HTAB : Hid ((m2.pl = 4 ∧ m2.tab = some t) ∨ m2.pl ≠ 4) := by
            rcases obeyS_tab hob with h | h
            · exact Or.inl ⟨h.1.trans HP4.out, h.2.trans HTB.out⟩
            · exact Or.inr h
          rw [hob] at hres
          clear hob hD2
          obtain ⟨rfl, s3, hA3, hk3, hb3⟩ := hres
          have HA3 := hide hA3
          have HK3 : Hid (Keeps s s3) := ⟨hk3.dv.trans HKS.out.dv, hk3.ps.trans HKS.out.ps, hk3.lim, hk3.ts.trans HKS.out.ts⟩
          have e1 : posOf rb w3 = m2.pos := by rw [hA3.live.rd.posOf, hA3.pos]
          have e0 := HPS.out
          have e3 := HSP.out
          have e4 := HOK.out
          clear hA3 hb3 hk3
          go_wp2
          refine ⟨⟨m2, s3, HLD.out.trans (Lead.one HLD.out.upto HD3.out (by rw [HP4.out]; decide)), HA3.out, HK3.out, hfw3, ?_⟩, ?_⟩
          · rcases HTAB.out with h | h
            · exact Or.inl h
            · exact Or.inr ⟨h, Nat.lt_of_lt_of_le (Gz.step_less HD3.out HLD.out.upto).2.2 HLD.out.less⟩
          · omega
    · have hLr := hAr.live
      have k5 : wr.cell? ⟨rb, 6, none⟩ = some (.int .i64 m'.pl) := by rw [hLr.rd.c5, hAr.pl]
      have hb4 : ((m'.pl : Int) == 4) = false := by simp; omega
      have HAR := hide hAr
      clear hAr
      go_wp2
      go_ret
      exact ⟨hfr, Or.inl ⟨rfl, m', s', hLd, hrk, HAR.out, hks⟩⟩
end Go.Proofs.YtjjjlilflbddoaaGreatDoor
