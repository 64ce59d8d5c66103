import Derived.Test.YtjjjlilflbddoaaGreatDoorQRep
import Derived.Test.YtjjjlilflbddoaaGreatDoorTell
namespace Go.Proofs.YtjjjlilflbddoaaGreatDoor
open Go.RowKit

/-- The bit that is taken next, off the reader's block. -/
def posOf (rb : Nat) (w : World) : Nat := match w.cell? ⟨rb, 2, none⟩ with
  | some v => (intOf v).toNat
  | none => 0
theorem Rd.posOf {w : World} {rb : Nat} {s : RS} (h : Rd w rb s) : posOf rb w = s.pos := by
  unfold Proofs.YtjjjlilflbddoaaGreatDoor.posOf; rw [h.c1]; simp [intOf]

/-- What every place of the machine keeps. -/
structure Sound (m : Gz.M) : Prop where
  pl : m.pl ≤ 5
  tab : m.pl = 4 → ∃ t, m.tab = some t
  le : m.pl = 2 → m.le ≤ 65535
theorem sound_start : Sound Gz.M.start := ⟨by decide, fun h => absurd h (by decide), fun h => absurd h (by decide)⟩
theorem sound_over (m : Gz.M) : Sound m.over := by
  have h : m.over.pl = 5 ∨ m.over.pl = 0 := by show (if m.la then 5 else 0) = 5 ∨ (if m.la then 5 else 0) = 0; cases m.la <;> simp
  exact ⟨by omega, fun h' => by omega, fun h' => by omega⟩
theorem step_sound {d : List UInt8} {lim : Nat} {m m' : Gz.M} (h : Gz.step d lim m = .ok m') (hs : Sound m) : Sound m' ∧ (m.pl ≠ 3 → m'.asks = m.asks) := by
  unfold Gz.step at h
  split at h
  · obtain ⟨x, q, h1, h⟩ := Gz.thenS_ok h
    unfold Gz.headS at h
    split at h
    · cases h; exact ⟨⟨by show 1 ≤ 5; omega, fun h => (by simp at h), fun h => (by simp at h)⟩, fun _ => rfl⟩
    split at h
    · cases h; exact ⟨⟨by show 4 ≤ 5; omega, fun _ => ⟨_, rfl⟩, fun h => (by simp at h)⟩, fun _ => rfl⟩
    split at h
    · cases h; exact ⟨⟨by show 3 ≤ 5; omega, fun h => (by simp at h), fun h => (by simp at h)⟩, fun _ => rfl⟩
    · cases h
  · obtain ⟨x, q, h1, h⟩ := Gz.thenS_ok h
    cases h
    refine ⟨⟨by show 2 ≤ 5; omega, fun h => (by simp at h), fun _ => ?_⟩, fun _ => rfl⟩
    show x ≤ 65535
    obtain ⟨a, p1, h2, h1⟩ := Gz.bind_ok h1
    obtain ⟨k, p2, h3, h1⟩ := Gz.bind_ok h1
    split at h1
    · cases h1
    · cases h1; omega
  · rename_i hpl
    split at h
    · cases h; exact ⟨sound_over m, fun _ => rfl⟩
    · obtain ⟨x, q, h1, h⟩ := Gz.thenS_ok h
      unfold Gz.byteS at h
      split at h
      · cases h
      · cases h
        refine ⟨⟨hs.pl, fun h => hs.tab h, fun h => ?_⟩, fun _ => rfl⟩
        have := hs.le h
        show m.le - 1 ≤ 65535
        omega
  · rename_i hpl
    obtain ⟨x, q, h1, h⟩ := Gz.thenS_ok h
    cases h
    exact ⟨⟨by show 4 ≤ 5; omega, fun _ => ⟨_, rfl⟩, fun h => (by simp at h)⟩, fun h => absurd hpl h⟩
  · rename_i hpl
    split at h
    · cases h
    · obtain ⟨x, q, h1, h⟩ := Gz.thenS_ok h
      unfold Gz.obeyS at h
      split at h
      · split at h
        · cases h
        · cases h; exact ⟨⟨hs.pl, fun h => hs.tab h, fun h => hs.le h⟩, fun _ => rfl⟩
      split at h
      · cases h; exact ⟨⟨(sound_over m).pl, fun h => (sound_over m).tab h, fun h => (sound_over m).le h⟩, fun _ => rfl⟩
      split at h
      · obtain ⟨x, q, _, h⟩ := Gz.thenS_ok h
        unfold Gz.copyS at h
        split at h
        · cases h
        split at h
        · cases h
        · cases h; exact ⟨⟨hs.pl, fun h => hs.tab h, fun h => hs.le h⟩, fun _ => rfl⟩
      · cases h
  · cases h

/-- Steps lead from m to m'. -/
structure Lead (d : List UInt8) (lim : Nat) (m m' : Gz.M) : Prop where
  same : Gz.final d lim m = Gz.final d lim m'
  upto : m'.pos ≤ 8 * d.length
  on : m.pos ≤ m'.pos
  less : Gz.rank d m' ≤ Gz.rank d m
  sound : Sound m → Sound m'
  asks : m'.asks = m.asks
theorem Lead.refl {d : List UInt8} {lim : Nat} {m : Gz.M} (h : m.pos ≤ 8 * d.length) : Lead d lim m m := ⟨rfl, h, Nat.le_refl _, Nat.le_refl _, id, rfl⟩
theorem Lead.trans {d : List UInt8} {lim : Nat} {m m' m2 : Gz.M} (h : Lead d lim m m') (h2 : Lead d lim m' m2) : Lead d lim m m2 := ⟨h.same.trans h2.same, h2.upto, Nat.le_trans h.on h2.on, Nat.le_trans h2.less h.less, fun s => h2.sound (h.sound s), h2.asks.trans h.asks⟩
theorem step_asks {d : List UInt8} {lim : Nat} {m m' : Gz.M} (h : Gz.step d lim m = .ok m') (hp : m.pl ≠ 3) : m'.asks = m.asks := by
  unfold Gz.step at h
  split at h
  · obtain ⟨x, q, h1, h⟩ := Gz.thenS_ok h
    unfold Gz.headS at h
    split at h
    · cases h; rfl
    split at h
    · cases h; rfl
    split at h
    · cases h; rfl
    · cases h
  · obtain ⟨x, q, h1, h⟩ := Gz.thenS_ok h
    cases h; rfl
  · split at h
    · cases h; rfl
    · obtain ⟨x, q, h1, h⟩ := Gz.thenS_ok h
      unfold Gz.byteS at h
      split at h
      · cases h
      · cases h; rfl
  · rename_i hpl; exact absurd hpl hp
  · split at h
    · cases h
    · obtain ⟨x, q, h1, h⟩ := Gz.thenS_ok h
      unfold Gz.obeyS at h
      split at h
      · split at h
        · cases h
        · cases h; rfl
      split at h
      · cases h; rfl
      split at h
      · obtain ⟨x, q, _, h⟩ := Gz.thenS_ok h
        unfold Gz.copyS at h
        split at h
        · cases h
        split at h
        · cases h
        · cases h; rfl
      · cases h
  · cases h
theorem Lead.one {d : List UInt8} {lim : Nat} {m m' : Gz.M} (h : m.pos ≤ 8 * d.length) (h2 : Gz.step d lim m = .ok m') (hp : m.pl ≠ 3) : Lead d lim m m' :=
  have e := Gz.step_less h2 h
  ⟨Gz.final_ok h2 h, e.2.1, e.1, Nat.le_of_lt e.2.2, fun s => (step_sound h2 s).1, step_asks h2 hp⟩

/-- How a part that makes steps from m on comes to its end. -/
def RanL (sp : Nat → Addr) (B rb db : Nat) (K : List Nat) (d : List UInt8) (m : Gz.M) (w : World) (s : RS) (e : Ending) (w' : World) : Prop :=
  Fr (Own B K) w w' ∧ ((e = .returned .nilIface ∧ ∃ m' s', Lead d s.lim m m' ∧ Gz.rank d m' < Gz.rank d m ∧ At sp B rb db K d m' w' s' ∧ Keeps s s') ∨
    ∃ m1 k o, Lead d s.lim m m1 ∧ Gz.step d s.lim m1 = .error (k, o) ∧ (∃ s' q, At sp B rb db K d { m1 with out := o, pos := q } w' s' ∧ Keeps s s' ∧ s'.bg = m1.pos) ∧
      ((k = 2 ∧ ShortP w' e) ∨ (3 ≤ k ∧ k ≤ 8 ∧ ∃ v n, e = .returned v ∧ Err sp w' v k n)))

theorem obeyS_tab {d : List UInt8} {lim : Nat} {t : Gz.Table} {m m2 : Gz.M} {sy p : Nat} (h : Gz.obeyS d lim t m sy p = .ok m2) : (m2.pl = m.pl ∧ m2.tab = m.tab) ∨ m2.pl ≠ 4 := by
  unfold Gz.obeyS at h
  split at h
  · split at h
    · cases h
    · cases h; exact Or.inl ⟨rfl, rfl⟩
  split at h
  · cases h; exact Or.inr (by show (if m.la then 5 else 0) ≠ 4; cases m.la <;> decide)
  split at h
  · obtain ⟨x, q, _, h⟩ := Gz.thenS_ok h
    unfold Gz.copyS at h
    split at h
    · cases h
    split at h
    · cases h
    · cases h; exact Or.inl ⟨rfl, rfl⟩
  · cases h

set_option maxRecDepth 100000 in
set_option maxHeartbeats 1600000 in
theorem symbols_any (sp : Nat → Addr) (B rb db : Nat) (K : List Nat) (s : RS) (d : List UInt8) (m : Gz.M) (t : Gz.Table) (w : World) (hA : At sp B rb db K d m w s) (hpl : m.pl = 4) (ht : m.tab = some t) (hpos : m.pos ≤ 8 * d.length) :
    Calls Tryz.prog 88 #[.pointer (some ⟨rb, 0, none⟩)] w (RanL sp B rb db K d m w s) := by
  have hne := neq_err
  have hnn := neq_nil
  have HA := hide hA
  have HPL := hide hpl
  have HT := hide ht
  clear hA hpl ht
  go_enter Tryz.func88, Tryz.ntmps88
  go_wp2
  go_loopw [] (fun wr => ∃ (m' : Gz.M) (s' : RS), Lead d s.lim m m' ∧ At sp B rb db K d m' wr s' ∧ Keeps s s' ∧ Fr (Own B K) w wr ∧ ((m'.pl = 4 ∧ m'.tab = some t) ∨ (m'.pl ≠ 4 ∧ Gz.rank d m' < Gz.rank d m))) (fun wr => 8 * d.length - posOf rb wr)
  case atStart => exact ⟨m, s, Lead.refl hpos, HA.out, Keeps.refl _, Fr.refl _ _, Or.inl ⟨HPL.out, HT.out⟩⟩
  case round =>
    obtain ⟨m', s', hLd, hAr, hks, hfr, ⟨hpl', ht'⟩ | ⟨hpl', hrk⟩⟩ := hrel
    · have hLr := hAr.live
      have hp : s'.pos ≤ 8 * d.length := by rw [hAr.pos]; exact hLd.upto
      obtain ⟨tb, s1, s2, hst, hT⟩ : ∃ tb s1 s2, s'.tb = .pointer (some ⟨tb, 0, none⟩) ∧ TableAt wr K tb s1 s2 t := by have := hAr.tab; rw [ht'] at this; exact this
      have k5 : wr.cell? ⟨rb, 6, none⟩ = some (.int .i64 4) := by rw [hLr.rd.c5, hAr.pl, hpl']; rfl
      have k1 := hLr.rd.c1
      have k2 := hLr.rd.c2
      have e2 := hLr.rd.fz 3
      have k8 : wr.cell? ⟨rb, 9, none⟩ = some (.pointer (some ⟨tb, 0, none⟩)) := by rw [hLr.rd.c8]; exact congrArg some hst
      have hr1 : Rd (wr.setCell ⟨rb, 3, none⟩ (.int .i64 s'.pos)) rb { s' with bg := s'.pos } := hLr.rd.s2 _ s'.pos rfl (by have := hLr.dlen; omega)
      have hf1 : Fr (One rb) wr (wr.setCell ⟨rb, 3, none⟩ (.int .i64 s'.pos)) := (Fr.refl _ _).setCell (fun _ => one_self rb) _
      have hL1 := hLr.of hf1 hr1 rfl rfl rfl
      have hT1 := hT.fr (hLr.one hf1)
      have HPS := hide (show posOf rb wr = s'.pos from hLr.rd.posOf)
      have hstep : Gz.step d s.lim m' = Gz.thenS (Gz.sym d t.syms m'.pos) m'.out (Gz.obeyS d s.lim t m') := by
        unfold Gz.step; rw [hpl']; simp only [ht']
      have HSTEP := hide hstep
      have HAR := hide hAr
      have HKS := hide hks
      have HLD := hide hLd
      have HTB := hide ht'
      have HP4 := hide hpl'
      have HSP := hide (show s'.pos = m'.pos from hAr.pos)
      clear hstep hAr hks hLd ht' hpl' hst
      go_wp2_with fail
      refine (symbol_any sp rb db tb 0 s1 { s' with bg := s'.pos } d t.syms _ hL1.dlen (hL1.ne hL1.dbK) (hL1.ne hT1.k0) (hL1.ne hT1.k1) hL1.r13 hL1.env hr1 hL1.dat hT1.syms hT1.g1).mono ?_
      rintro e w2 ⟨hf2, hres⟩
      have hfw := hfr.trans (hLr.one (hf1.trans hf2))
      simp only at hres
      rw [HSP.out] at hres
      cases hs : Gz.sym d t.syms m'.pos with
      | error k =>
        have HD : Hid (Gz.step d s.lim m' = .error (k, m'.out)) := by unfold Hid; rw [HSTEP.out, hs]; rfl
        rw [hs] at hres
        clear hs
        obtain ⟨⟨q, hr2⟩, hres⟩ := hres
        have HA2 := hide (HAR.out.to (hLr.one (hf1.trans hf2)) (q := q) (hL1.of hf2 hr2 rfl rfl rfl) rfl rfl rfl rfl rfl)
        obtain ⟨rfl, p', n, rfl, hp'⟩ | ⟨h3, h8', v, n, rfl, hv⟩ := hres
        · go_wp2
          refine bodyPost_panic rfl ⟨hfw, Or.inr ⟨m', _, _, HLD.out, HD.out, ⟨_, q, HA2.out, HKS.out.trans ⟨rfl, rfl, rfl, rfl⟩, rfl⟩, Or.inl ⟨rfl, p', n, rfl, hp'⟩⟩⟩
        · obtain ⟨ty, p', rfl⟩ := hv.iface
          go_wp2
          go_ret
          exact ⟨hfw, Or.inr ⟨m', _, _, HLD.out, HD.out, ⟨_, q, HA2.out, HKS.out.trans ⟨rfl, rfl, rfl, rfl⟩, rfl⟩, Or.inr ⟨h3, h8', _, n, rfl, hv⟩⟩⟩
      | ok okk =>
        obtain ⟨sy, q⟩ := okk
        have hq := sym_ok hs
        have HD : Hid (Gz.step d s.lim m' = Gz.obeyS d s.lim t m' sy q) := by unfold Hid; rw [HSTEP.out, hs]; rfl
        rw [hs] at hres
        clear hs
        obtain ⟨rfl, hr2⟩ := hres
        have hA2 := HAR.out.to (hLr.one (hf1.trans hf2)) (q := q) (hL1.of hf2 hr2 rfl rfl rfl) rfl rfl rfl rfl rfl
        go_wp2_with fail
        refine (obey_any sp B rb db sy K _ d _ t _ hA2 HTB.out hq.2).mono ?_
        rintro e w3 ⟨hf3, hres⟩
        have hfw3 := hfw.trans hf3
        have hlim : s'.lim = s.lim := HKS.out.lim
        simp only at hres
        rw [hlim] at hres
        have hD2 : Gz.step d s.lim m' = Gz.obeyS d s.lim t { m' with out := m'.out, pos := q } sy q := HD.out
        cases hob : Gz.obeyS d s.lim t { m' with out := m'.out, pos := q } sy q with
        | error ko =>
          obtain ⟨k, o⟩ := ko
          have HD3 : Hid (Gz.step d s.lim m' = .error (k, o)) := hD2.trans hob
          rw [hob] at hres
          clear hob hD2
          obtain ⟨⟨s3, q3, hA3, hk3, hb3⟩, hres⟩ := hres
          have HA3 := hide hA3
          have HB3 := hide (show s3.bg = m'.pos from hb3)
          have HK3 : Hid (Keeps s s3) := ⟨hk3.dv.trans HKS.out.dv, hk3.ps.trans HKS.out.ps, hk3.lim, hk3.ts.trans HKS.out.ts⟩
          clear hA3 hb3 hk3
          obtain ⟨rfl, p', n, rfl, hp'⟩ | ⟨h3, h8', v, n, rfl, hv⟩ := hres
          · go_wp2
            refine bodyPost_panic rfl ⟨hfw3, Or.inr ⟨m', _, _, HLD.out, HD3.out, ⟨s3, q3, HA3.out, HK3.out, HB3.out⟩, Or.inl ⟨rfl, p', n, rfl, hp'⟩⟩⟩
          · obtain ⟨ty, p', rfl⟩ := hv.iface
            go_wp2
            go_ret
            exact ⟨hfw3, Or.inr ⟨m', _, _, HLD.out, HD3.out, ⟨s3, q3, HA3.out, HK3.out, HB3.out⟩, Or.inr ⟨h3, h8', _, n, rfl, hv⟩⟩⟩
        | ok m2 =>
          have HD3 : Hid (Gz.step d s.lim m' = .ok m2) := hD2.trans hob
          have HOK := hide (Gz.obeyS_ok hob hq.2)
          have HTAB : Hid ((m2.pl = 4 ∧ m2.tab = some t) ∨ m2.pl ≠ 4) := by
            rcases obeyS_tab hob with h | h
            · exact Or.inl ⟨h.1.trans HP4.out, h.2.trans HTB.out⟩
            · exact Or.inr h
          rw [hob] at hres
          clear hob hD2
          obtain ⟨rfl, s3, hA3, hk3, hb3⟩ := hres
          have HA3 := hide hA3
          have HK3 : Hid (Keeps s s3) := ⟨hk3.dv.trans HKS.out.dv, hk3.ps.trans HKS.out.ps, hk3.lim, hk3.ts.trans HKS.out.ts⟩
          have e1 : posOf rb w3 = m2.pos := by rw [hA3.live.rd.posOf, hA3.pos]
          have e0 := HPS.out
          have e3 := HSP.out
          have e4 := HOK.out
          clear hA3 hb3 hk3
          go_wp2
          refine ⟨⟨m2, s3, HLD.out.trans (Lead.one HLD.out.upto HD3.out (by rw [HP4.out]; decide)), HA3.out, HK3.out, hfw3, ?_⟩, ?_⟩
          · rcases HTAB.out with h | h
            · exact Or.inl h
            · exact Or.inr ⟨h, Nat.lt_of_lt_of_le (Gz.step_less HD3.out HLD.out.upto).2.2 HLD.out.less⟩
          · omega
    · have hLr := hAr.live
      have k5 : wr.cell? ⟨rb, 6, none⟩ = some (.int .i64 m'.pl) := by rw [hLr.rd.c5, hAr.pl]
      have hb4 : ((m'.pl : Int) == 4) = false := by simp; omega
      have HAR := hide hAr
      clear hAr
      go_wp2
      go_ret
      exact ⟨hfr, Or.inl ⟨rfl, m', s', hLd, hrk, HAR.out, hks⟩⟩
end Go.Proofs.YtjjjlilflbddoaaGreatDoor
namespace Go.Proofs.YtjjjlilflbddoaaGreatDoor
open Go.RowKit

/-- How toldLengths comes to its end. -/
def RanT (sp : Nat → Addr) (w : World) (rb : Nat) (s : RS) (r : Gz.Out (List Nat)) (e : Ending) (w' : World) : Prop :=
  Fr (One rb) w w' ∧ match r with
  | .ok (l, q) => ∃ tv, e = .returned (.tuple #[tv, .nilIface]) ∧ w'.ownsRow w.heap.size 5 1 tv l.length (l.map uv) ∧ Lens l ∧ Rd w' rb { s with pos := q }
  | .error k => (∃ q, Rd w' rb { s with pos := q }) ∧ ((k = 2 ∧ ShortP w' e) ∨ (3 ≤ k ∧ k ≤ 8 ∧ ∃ t v n, e = .returned (.tuple #[t, v]) ∧ Err sp w' v k n))

theorem ownsRow_last {w : World} {B : Nat} {v : Value} {l : List Nat} (h : w.ownsRow B 5 1 v l.length (l.map uv)) (hl : 0 < l.length) : ∃ g cap, v = .slice (some ⟨g, 0, none⟩) l.length cap ∧ w.cell? ⟨g, l.length - 1, none⟩ = some (.int .u8 (l.getLastD 0 : Nat)) := by
  rcases h.2 with ⟨_, h0⟩ | ⟨g, cap, cur, hv, _, hh, _, _, _, ht⟩
  · omega
  · refine ⟨g, cap, hv, ?_⟩
    rw [cell_of hh]
    have e1 : (cur.toList.take (l.length * 1))[l.length - 1]? = (l.map uv)[l.length - 1]? := by rw [ht]
    rw [List.getElem?_take_of_lt (by omega)] at e1
    rw [← Array.getElem?_toList, e1, lastD]
    simp [uv, List.getD, show l.length - 1 < l.length by omega]

set_option maxRecDepth 100000 in
set_option maxHeartbeats 1600000 in
theorem toldLengths_any (sp : Nat → Addr) (rb db cb co sb count : Nat) (s : RS) (d : List UInt8) (c : Gz.Code) (w : World) (hn : d.length ≤ 4000) (hdb : db ≠ rb) (hcb : cb ≠ rb) (hsb : sb ≠ rb) (h13 : 16 ≤ rb)
    (hE : Env sp w) (hr : Rd w rb s) (hd : Dat w db s.dv d) (hc : CodeAt w cb co sb c) (hg : Good c) (hs19 : ∀ j, c.symbols.getD j 0 < 19) (hcount : count ≤ 316) (hpos : s.pos ≤ 8 * d.length) :
    Calls Tryz.prog 115 #[.pointer (some ⟨rb, 0, none⟩), .pointer (some ⟨cb, co, none⟩), .int .i64 count] w (RanT sp w rb s (Gz.told d c count s.pos)) := by
  obtain ⟨i0, hi, hz0, hz1, hz2⟩ := info_parts info5
  have hne := neq_err
  have hnn := neq_nil
  have hrl := hr.lt
  go_enter Tryz.func115, Tryz.ntmps115
  go_wp2_with (refine wpList_make_own _ rfl _ _ 61 rfl w.heap.size 5 i0 (.int .u8 0) 1 Tryz.underlying61 hi hz0 hz1 .i64 .i64 316 316 rfl rfl rfl (by omega) (by decide) (by omega) ?_; intro w1 hown0 hgr0)
  have hf0 : Fr (One rb) w w1 := (Fr.refl _ _).grown hgr0 (fun k h => by cases h)
  have HO0 := hide hown0
  have HG0 := hide hgr0
  clear hown0 hgr0
  go_wp2_with fail
  go_loopw [8] (fun tv wr => ∃ (l : List Nat) (p : Nat), l.length ≤ count ∧ p ≤ 8 * d.length ∧ Gz.iter (8 * d.length) (Gz.toldStep d c count) l p = Gz.told d c count s.pos ∧ Lens l ∧ wr.ownsRow w.heap.size 5 1 tv l.length (l.map uv) ∧ Rd wr rb { s with pos := p } ∧ Fr (One rb) w wr) (fun tv _ => count - lenOf tv)
  case atStart => exact ⟨[], s.pos, Nat.zero_le _, hpos, rfl, fun i hi => by simp at hi, HO0.out, hr.fr (grown_frNo HG0.out) (no_no _), hf0⟩
  case round =>
    obtain ⟨l, p, hlc, hp, hgo, hl15, hrow, hrr, hfr⟩ := hrel
    obtain ⟨ao, cap, rfl⟩ := ownsRow_form hrow
    have HGO := hide hgo
    have HROW := hide hrow
    clear hgo hrow
    have hd2 := hd.fr hfr (one_ne hdb)
    have hE2 := hE.fr hfr (fun k hk => one_ne (by omega))
    have hc2 := hc.fr hfr (one_ne hcb) (one_ne hsb)
    by_cases hlt : l.length < count
    · go_wp2_with fail
      refine (symbol_any sp rb db cb co sb { s with pos := p } d c _ hn hdb hcb hsb h13 hE2 hrr hd2 hc2 hg).mono ?_
      rintro e w2 ⟨hf2, hres⟩
      cases hs : Gz.sym d c p with
      | error k =>
        have HD : Hid (Gz.told d c count s.pos = .error k) := by
          unfold Hid; rw [← HGO.out]; exact iter_bad (by unfold Gz.toldStep; rw [if_pos hlt, hs]; rfl)
        rw [hs] at hres
        clear hs
        obtain ⟨⟨q, hr2⟩, ⟨rfl, p', m, rfl, hp'⟩ | ⟨h3, h8', v, m, rfl, hv⟩⟩ := hres
        · go_wp2
          refine bodyPost_panic rfl ⟨hfr.trans hf2, ?_⟩
          rw [HD.out]
          exact ⟨⟨_, hr2⟩, Or.inl ⟨rfl, p', m, rfl, hp'⟩⟩
        · obtain ⟨ty, p', rfl⟩ := hv.iface
          go_wp2
          go_ret2
          refine ⟨hfr.trans hf2, ?_⟩
          rw [HD.out]
          exact ⟨⟨_, hr2⟩, Or.inr ⟨h3, h8', _, _, m, rfl, hv⟩⟩
      | ok okk =>
        obtain ⟨sy, q⟩ := okk
        have hq := sym_ok hs
        have hsy : sy < 19 := symGo_lt d c 19 hs19 _ _ _ _ _ _ _ _ hs
        have HS := hide hs
        rw [hs] at hres
        clear hs
        obtain ⟨rfl, hr2⟩ := hres
        have hd3 := hd2.fr hf2 (one_ne hdb)
        go_wp2_with fail
        refine (run_any sp rb db sy { s with pos := q } d _ hn hdb hr2 hd3 (by omega)).mono ?_
        rintro e w3 ⟨hf3, hres⟩
        have hfw := (hfr.trans hf2).trans hf3
        have hE3 := (hE2.fr hf2 (fun k hk => one_ne (by omega))).fr hf3 (fun k hk => one_ne (by omega))
        have hsent : w3.cell? ⟨2, 0, none⟩ = some (.iface 248 (.pointer (some (sp 5)))) := hE3.err 5 (by omega) (by omega)
        cases hrn : Gz.run d sy q with
        | error k =>
          have hk2 := run_bad hrn
          subst hk2
          have HD : Hid (Gz.told d c count s.pos = .error 2) := by
            unfold Hid; rw [← HGO.out]; exact iter_bad (by unfold Gz.toldStep; rw [if_pos hlt, HS.out]; simp only [Gz.Out.bind]; rw [hrn])
          rw [hrn] at hres
          clear hrn
          obtain ⟨⟨q2, hr3⟩, ⟨_, p', m, rfl, hp'⟩ | ⟨h3, _⟩⟩ := hres
          · go_wp2
            refine bodyPost_panic rfl ⟨hfw, ?_⟩
            rw [HD.out]
            exact ⟨⟨_, hr3⟩, Or.inl ⟨rfl, p', m, rfl, hp'⟩⟩
          · omega
        | ok okk =>
          obtain ⟨x, q2⟩ := okk
          have hrun := run_ok hrn hq.2
          obtain ⟨ln, tm⟩ := x
          simp only at hrun
          have HST : Hid (Gz.toldStep d c count l p = if sy = 16 ∧ l.length = 0 then .error 5 else if count < l.length + tm then .error 5 else .ok ((.inl (l ++ List.replicate tm (if sy = 16 then l.getLastD 0 else ln))), q2)) := by
            unfold Hid Gz.toldStep; rw [if_pos hlt, HS.out]; simp only [Gz.Out.bind]; rw [hrn]
          rw [hrn] at hres
          clear hrn
          obtain ⟨rfl, hr3⟩ := hres
          have hrow3 := ownsRow_fr HROW.out (hf2.trans hf3) (fun g hgb => one_ne (fun e => by have := ownsRow_base HROW.out hgb; omega))
          have HROW3 := hide hrow3
          clear hrow3
          obtain ⟨X, hX⟩ : ∃ X, X = if sy = 16 then l.getLastD 0 else ln := ⟨_, rfl⟩
          rw [← hX] at HST
          have hX15 : X ≤ 15 := by
            rw [hX]; split
            · rw [lastD]
              by_cases h0 : 0 < l.length
              · exact hl15 _ (by omega)
              · rw [List.getD, List.getElem?_eq_none (by omega)]; simp
            · by_cases h16 : sy < 16
              · rw [hrun.2.2.2.2.1 h16]; omega
              · rw [hrun.2.2.2.2.2 (by omega) hsy]; omega
          have HX := hide hX
          clear hX
          go_upto_if 34 with fail
          go_cut [11] (fun v wx => v = .int .u8 (X : Nat) ∧ wx = w3 ∧ ¬ (sy = 16 ∧ l.length = 0))
          case first =>
            by_cases h16 : sy = 16
            · have hX' : X = l.getLastD 0 := by rw [HX.out, if_pos h16]
              have HX' := hide hX'
              clear hX'
              have hb16 : ((sy : Int) == 16) = true := by rw [beq_iff_eq]; omega
              have H16 := hide h16
              clear h16
              by_cases h0 : l.length = 0
              · have hb0 : ((l.length : Int) == 0) = true := by rw [beq_iff_eq]; omega
                have HD : Hid (Gz.told d c count s.pos = .error 5) := by
                  unfold Hid; rw [← HGO.out]; exact iter_bad (by rw [HST.out, if_pos ⟨H16.out, h0⟩])
                clear h0
                go_wp2_with fail
                go_region
                all_goals
                  go_wp2
                  go_ret2
                  refine ⟨(hfw.drew).alloc _, ?_⟩
                  rw [HD.out]
                  exact ⟨⟨_, hr3.alloc _⟩, Or.inr ⟨by omega, by omega, _, _, 1, rfl, .fault _ _ _ _ _ (alloc_at (World.drew w3) _) (.sent 5 (by omega) (by omega))⟩⟩
              · obtain ⟨g, cap2, hv2, hcl⟩ := ownsRow_last HROW3.out (by omega)
                injection hv2 with hv3 _ hv4
                subst hv3
                subst hv4
                rw [← HX'.out] at hcl
                have hb0 : ((l.length : Int) == 0) = false := by rw [beq_eq_false_iff_ne]; omega
                go_wp2_with fail
                go_meet
                exact ⟨rfl, rfl, fun h => h0 h.2⟩
            · have hb16 : ((sy : Int) == 16) = false := by rw [beq_eq_false_iff_ne]; omega
              have hX' : X = ln := by rw [HX.out, if_neg h16]
              subst hX'
              go_wp2_with fail
              go_meet
              exact ⟨rfl, rfl, fun h => h16 h.1⟩
          case rest =>
            obtain ⟨rfl, rfl, hno⟩ := hcut
            have hlc3 : l.length ≤ 316 := by omega
            by_cases hmany : count < l.length + tm
            · have HD : Hid (Gz.told d c count s.pos = .error 5) := by
                unfold Hid; rw [← HGO.out]; exact iter_bad (by rw [HST.out, if_neg hno, if_pos hmany])
              go_wp2_with fail
              go_region
              all_goals
                go_wp2
                go_ret2
                refine ⟨(hfw.drew).alloc _, ?_⟩
                rw [HD.out]
                exact ⟨⟨_, hr3.alloc _⟩, Or.inr ⟨by omega, by omega, _, _, 1, rfl, .fault _ _ _ _ _ (alloc_at (World.drew wc) _) (.sent 5 (by omega) (by omega))⟩⟩
            · have HM : Hid (Gz.iter (8 * d.length) (Gz.toldStep d c count) (l ++ List.replicate tm X) q2 = Gz.told d c count s.pos) := by
                unfold Hid; rw [← HGO.out]; exact (iter_more (by rw [HST.out, if_neg hno, if_neg hmany]) (by omega) (by omega)).symm
              go_wp2_with fail
              go_loopw [8, 59] (fun tv i w4 => ∃ (k : Nat) (l4 : List Nat), k ≤ tm ∧ i = .int .i64 k ∧ l4 = l ++ List.replicate k X ∧ w4.ownsRow w.heap.size 5 1 tv l4.length (l4.map uv) ∧ Rd w4 rb { s with pos := q2 } ∧ Fr (One rb) w w4) (fun _ i _ => tm - (intOf i).toNat)
              case atStart => exact ⟨0, l, Nat.zero_le _, rfl, by simp, HROW3.out, hr3, hfw⟩
              case round =>
                obtain ⟨k, l4, hk, rfl, hl4, hrow4, hr4, hf4⟩ := hrel
                obtain ⟨ao4, cap4, rfl⟩ := ownsRow_form hrow4
                have HROW4 := hide hrow4
                have HL4 := hide hl4
                have hlen4 : l4.length ≤ l.length + k := by rw [hl4]; simp
                clear hrow4 hl4
                have hsz4 := hf4.size
                by_cases hkt : k < tm
                · go_wp2_with (at_builtin; refine wpList_append_lies _ rfl (.tmp 61) (.tmp 63) 61 rfl w.heap.size 5 i0 (.int .u8 0) 1 1 Tryz.underlying61 hi hz0 hz1 hz2 rfl (by decide) (.slice ao4 l4.length cap4) l4.length (l4.map uv) rfl ?hown ⟨wr.heap.size, 0, none⟩ 1 1 [uv X] rfl rfl ?hnews ?h1 (by decide) ?h63 ?hb ?hbase _ rfl ?hK)
                  case hown => exact ownsRow_fr (S := No) HROW4.out ((Fr.refl _ _).alloc _) (fun _ _ => no_no _)
                  case hnews => intro j u hj; match j, hj with | 0, hj => simp at hj; subst hj; exact cell_of (alloc_at wr _) 0
                  case h1 => intro u hu; simp at hu; subst hu; rfl
                  case h63 => unfold maxLen; omega
                  case hb => omega
                  case hbase => simp; omega
                  case hK =>
                    intro g cap5 w5 hown5 hgrow5 hat5 hlt5
                    have hf5 : Fr (One rb) w w5 := (hf4.alloc _).grown hgrow5 (fun k hk2 hk3 => by have := ownsRow_base HROW4.out hk2; omega)
                    have hr5 : Rd w5 rb { s with pos := q2 } := by
                      have hfo : Fr (fun k => (Value.slice ao4 l4.length cap4).ownBlock = some k) wr w5 := ((Fr.refl _ _).alloc _).grown hgrow5 (fun k hk _ => hk)
                      exact hr4.fr hfo (fun e => by have := ownsRow_base HROW4.out e; omega)
                    have HO5 := hide hown5
                    clear hown5 hgrow5 hat5
                    go_wp2_with fail
                    refine ⟨⟨k + 1, l4 ++ [X], by omega, by go_num, ?_, ?_, hr5, hf5⟩, by simp [intOf]; omega⟩
                    · rw [HL4.out, List.append_assoc, List.replicate_succ']
                    · have := HO5.out; simpa using this
                · go_wp2_with fail
                  have hke : k = tm := by omega
                  refine ⟨⟨l4, q2, ?_, by omega, ?_, ?_, HROW4.out, hr4, hf4⟩, ?_⟩
                  · omega
                  · rw [HL4.out, hke]; exact HM.out
                  · intro i hi
                    rw [HL4.out]
                    by_cases hil : i < l.length
                    · rw [List.getD, List.getElem?_append_left hil]; exact hl15 i hil
                    · rw [List.getD, List.getElem?_append_right (by omega), List.getElem?_replicate]
                      split
                      · simpa using hX15
                      · simp
                  · have : l4.length = l.length + tm := by rw [HL4.out, hke]; simp
                    simp [lenOf]; omega
    · have HD : Hid (Gz.told d c count s.pos = .ok (l, p)) := by
        unfold Hid; rw [← HGO.out]; exact iter_end (by unfold Gz.toldStep; rw [if_neg hlt])
      go_wp2_with fail
      go_ret2
      refine ⟨hfr, ?_⟩
      rw [HD.out]
      exact ⟨_, rfl, HROW.out, hl15, hrr⟩
end Go.Proofs.YtjjjlilflbddoaaGreatDoor
