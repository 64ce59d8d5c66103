import Derived.Test.YtjjjlilflbddoaaGreatDoorRep
import Derived.Test.YtjjjlilflbddoaaGreatDoorQM
namespace Go.Proofs.YtjjjlilflbddoaaGreatDoor
open Go.RowKit

section
variable {sp : Nat → Addr} {B rb db : Nat} {K : List Nat} {d out : List UInt8} {w : World} {s : RS}
theorem Live.putz (h : Live sp B rb db K d out w s) (hl : out.length < s.lim) (c : UInt8) (z : Int) (hz : z = c.toNat) :
    Calls Tryz.prog 112 #[.pointer (some ⟨rb, 0, none⟩), .int .u8 z] w fun e w' => e = .returned .nilIface ∧ (∃ ov', Live sp B rb db K d (out ++ [c]) w' { s with ov := ov' }) ∧ Fr (Own B K) w w' := by
  subst hz; exact h.put hl c
theorem Live.noz (h : Live sp B rb db K d out w s) (hl : ¬ out.length < s.lim) (c : UInt8) (z : Int) (hz : z = c.toNat) :
    Calls Tryz.prog 112 #[.pointer (some ⟨rb, 0, none⟩), .int .u8 z] w fun e w' => e = .returned (.iface 248 (.pointer (some (sp 8)))) ∧ Fr No w w' := by
  subst hz; exact h.no hl c
end

/-- The table that a block's symbols are read by. -/
def TabAt (w : World) (K : List Nat) (v : Value) : Option Gz.Table → Prop
  | none => v = .pointer none
  | some t => ∃ tb s1 s2, v = .pointer (some ⟨tb, 0, none⟩) ∧ TableAt w K tb s1 s2 t

/-- The reader in memory stands where the machine stands. -/
structure At (sp : Nat → Addr) (B rb db : Nat) (K : List Nat) (d : List UInt8) (m : Gz.M) (w : World) (s : RS) : Prop where
  live : Live sp B rb db K d m.out w s
  pos : s.pos = m.pos
  pl : s.pl = m.pl
  la : s.la = m.la
  le : s.le = m.le
  tab : TabAt w K s.tb m.tab

/-- What no step changes. -/
structure Keeps (s s' : RS) : Prop where
  dv : s'.dv = s.dv
  ps : s'.ps = s.ps
  lim : s'.lim = s.lim
  ts : s'.ts = s.ts
theorem Keeps.refl (s : RS) : Keeps s s := ⟨rfl, rfl, rfl, rfl⟩
theorem Keeps.trans {s s' s2 : RS} (h : Keeps s s') (h2 : Keeps s' s2) : Keeps s s2 := ⟨h2.dv.trans h.dv, h2.ps.trans h.ps, h2.lim.trans h.lim, h2.ts.trans h.ts⟩

theorem TabAt.fr {w w' : World} {B : Nat} {K : List Nat} {v : Value} : ∀ {o : Option Gz.Table}, TabAt w K v o → Fr (Own B K) w w' → TabAt w' K v o
  | none, h, _ => h
  | some _, ⟨tb, s1, s2, h1, h2⟩, f => ⟨tb, s1, s2, h1, h2.fr f⟩

theorem At.to {sp : Nat → Addr} {B rb db : Nat} {K : List Nat} {d : List UInt8} {m : Gz.M} {w w' : World} {s s' : RS} (h : At sp B rb db K d m w s) (f : Fr (Own B K) w w') {o : List UInt8} {q : Nat} (hL : Live sp B rb db K d o w' s')
    (h1 : s'.pos = q) (h2 : s'.pl = s.pl) (h3 : s'.la = s.la) (h4 : s'.le = s.le) (h5 : s'.tb = s.tb) : At sp B rb db K d { m with out := o, pos := q } w' s' :=
  ⟨hL, h1, h2.trans h.pl, h3.trans h.la, h4.trans h.le, by rw [h5]; exact h.tab.fr f⟩

/-- How a step from m comes to its end. -/
def Ran1 (sp : Nat → Addr) (B rb db : Nat) (K : List Nat) (d : List UInt8) (m : Gz.M) (w : World) (s : RS) (r : Gz.Step) (e : Ending) (w' : World) : Prop :=
  Fr (Own B K) w w' ∧ match r with
  | .ok m' => e = .returned .nilIface ∧ ∃ s', At sp B rb db K d m' w' s' ∧ Keeps s s' ∧ s'.bg = s.bg
  | .error (k, o) => (∃ s' q, At sp B rb db K d { m with out := o, pos := q } w' s' ∧ Keeps s s' ∧ s'.bg = s.bg) ∧ ((k = 2 ∧ ShortP w' e) ∨ (3 ≤ k ∧ k ≤ 8 ∧ ∃ v n, e = .returned v ∧ Err sp w' v k n))

/-- A repetition, both ways. -/
theorem obeyS_rep {d : List UInt8} {lim : Nat} {t : Gz.Table} {m : Gz.M} {sy p : Nat} (h1 : ¬ sy < 256) (h2 : sy ≠ 256) (h3 : sy ≤ 285) :
    Gz.obeyS d lim t m sy p = match Gz.rep d t lim sy m.out p with
      | .error k => .error (k, Gz.repO d t lim sy m.out p)
      | .ok (o, q) => .ok { m with out := o, pos := q } := by
  unfold Gz.obeyS Gz.rep Gz.repO Gz.farBits
  rw [if_neg h1, if_neg h2, if_pos h3]
  cases Gz.num d (Gz.lenBits sy) p with
  | error k => rfl
  | ok x =>
    obtain ⟨v, p1⟩ := x
    simp only [Gz.Out.bind]
    cases Gz.dist d t.dists p1 with
    | error k => rfl
    | ok x =>
      obtain ⟨far, p2⟩ := x
      simp only [Gz.thenS, Gz.copyS]
      by_cases h4 : m.out.length < far
      · rw [if_pos h4, if_pos h4, if_pos h4]
      · rw [if_neg h4, if_neg h4, if_neg h4]
        cases hc : Gz.copyGo lim far (Gz.lenFrom.getD (sy - 257) 0 + v) m.out with
        | none => rw [if_pos rfl]
        | some o => rw [if_neg (by simp), Gz.copyO_eq _ _ _ _ _ hc]

set_option maxRecDepth 100000 in
set_option maxHeartbeats 1600000 in
theorem obey_any (sp : Nat → Addr) (B rb db sy : Nat) (K : List Nat) (s : RS) (d : List UInt8) (m : Gz.M) (t : Gz.Table) (w : World) (hA : At sp B rb db K d m w s) (ht : m.tab = some t) (hpos : m.pos ≤ 8 * d.length) :
    Calls Tryz.prog 119 #[.pointer (some ⟨rb, 0, none⟩), .int .i64 sy] w (Ran1 sp B rb db K d m w s (Gz.obeyS d s.lim t m sy m.pos)) := by
  have hL := hA.live
  obtain ⟨tb, s1, s2, hst, hT⟩ : ∃ tb s1 s2, s.tb = .pointer (some ⟨tb, 0, none⟩) ∧ TableAt w K tb s1 s2 t := by have := hA.tab; rw [ht] at this; exact this
  have HST := hide hst
  have HPOS := hide hA.pos
  have HA := hide hA
  clear hst hA ht
  have hne := neq_err
  have hnn := neq_nil
  by_cases h1 : sy < 256
  · have hz := ofNat_toNat sy h1
    have HZ := hide hz
    clear hz
    by_cases hlo : m.out.length < s.lim
    · have HD : Hid (Gz.obeyS d s.lim t m sy m.pos = .ok { m with out := m.out ++ [UInt8.ofNat sy], pos := m.pos }) := by unfold Hid Gz.obeyS; rw [if_pos h1, if_neg (by omega)]
      go_enter Tryz.func119, Tryz.ntmps119
      go_wp2_with (go_at_call 112; refine (hL.putz hlo (UInt8.ofNat sy) _ (by first | exact HZ.out | (rw [← HZ.out]; omega))).mono ?_; rintro e w1 ⟨rfl, ⟨ov2, hL2⟩, hf2⟩)
      go_ret
      refine ⟨hf2, ?_⟩
      rw [HD.out]
      exact ⟨rfl, _, HA.out.to hf2 hL2 HPOS.out rfl rfl rfl rfl, ⟨rfl, rfl, rfl, rfl⟩, rfl⟩
    · have HD : Hid (Gz.obeyS d s.lim t m sy m.pos = .error (8, m.out)) := by unfold Hid Gz.obeyS; rw [if_pos h1, if_pos (by omega)]
      go_enter Tryz.func119, Tryz.ntmps119
      go_wp2_with (go_at_call 112; refine (hL.noz hlo (UInt8.ofNat sy) _ (by first | exact HZ.out | (rw [← HZ.out]; omega))).mono ?_; rintro e w1 ⟨rfl, hf2⟩)
      go_ret
      refine ⟨hf2.of_no, ?_⟩
      rw [HD.out]
      exact ⟨⟨_, m.pos, HA.out.to hf2.of_no (hL.of hf2.of_no (hL.rd.fr hf2 (no_no _)) rfl rfl rfl) HPOS.out rfl rfl rfl rfl, Keeps.refl _, rfl⟩, Or.inr ⟨by omega, by omega, _, 0, rfl, .sent 8 (by omega) (by omega)⟩⟩
  · by_cases h2 : sy = 256
    · subst h2
      go_enter Tryz.func119, Tryz.ntmps119
      go_wp2_with (go_at_call 113; refine (endBlock_any rb s _ hL.rd).mono ?_; rintro e w1 ⟨rfl, hr1, hf1⟩)
      go_ret
      refine ⟨hL.one hf1, ?_⟩
      have : Gz.obeyS d s.lim t m 256 m.pos = .ok { m.over with pos := m.pos } := rfl
      rw [this]
      refine ⟨rfl, _, ⟨hL.of hf1 hr1 rfl rfl rfl, HPOS.out, ?_, HA.out.la, HA.out.le, rfl⟩, ⟨rfl, rfl, rfl, rfl⟩, rfl⟩
      show s.endPl = _
      unfold RS.endPl
      rw [HA.out.la]
      rfl
    · have h2' : ((sy : Int) == 256) = false := by simp; omega
      by_cases h3 : sy ≤ 285
      · have HE := hide (obeyS_rep (d := d) (lim := s.lim) (t := t) (m := m) (p := m.pos) h1 h2 h3)
        go_enter Tryz.func119, Tryz.ntmps119
        go_wp2_with fail
        refine (repeat_any sp B rb db tb s1 s2 sy K s d m.out t _ hL hT HST.out (by omega) h3 (by rw [HPOS.out]; exact hpos)).mono ?_
        rintro e w1 ⟨hf1, hres⟩
        rw [HPOS.out] at hres
        cases hrp : Gz.rep d t s.lim sy m.out m.pos with
        | ok okk =>
          obtain ⟨o, q⟩ := okk
          have HE2 : Hid (Gz.obeyS d s.lim t m sy m.pos = .ok { m with out := o, pos := q }) := by unfold Hid; rw [HE.out, hrp]
          rw [hrp] at hres
          clear hrp
          obtain ⟨rfl, ov2, hL2⟩ := hres
          go_wp2
          go_ret
          refine ⟨hf1, ?_⟩
          rw [HE2.out]
          exact ⟨rfl, _, HA.out.to hf1 hL2 rfl rfl rfl rfl rfl, ⟨rfl, rfl, rfl, rfl⟩, rfl⟩
        | error k =>
          have HE2 : Hid (Gz.obeyS d s.lim t m sy m.pos = .error (k, Gz.repO d t s.lim sy m.out m.pos)) := by unfold Hid; rw [HE.out, hrp]
          rw [hrp] at hres
          clear hrp
          obtain ⟨⟨q2, ov2, hL2⟩, hres⟩ := hres
          have HA2 := hide (HA.out.to hf1 hL2 rfl rfl rfl rfl rfl)
          clear hL2
          obtain ⟨rfl, p, n, rfl, hp⟩ | ⟨h3', h8', v, n, rfl, hv⟩ := hres
          · go_wp2
            refine bodyPost_panic rfl ⟨hf1, ?_⟩
            rw [HE2.out]
            exact ⟨⟨_, _, HA2.out, ⟨rfl, rfl, rfl, rfl⟩, rfl⟩, Or.inl ⟨rfl, p, n, rfl, hp⟩⟩
          · obtain ⟨ty, p, rfl⟩ := hv.iface
            go_wp2
            go_ret
            refine ⟨hf1, ?_⟩
            rw [HE2.out]
            exact ⟨⟨_, _, HA2.out, ⟨rfl, rfl, rfl, rfl⟩, rfl⟩, Or.inr ⟨h3', h8', _, n, rfl, hv⟩⟩
      · have hsent : w.cell? ⟨3, 0, none⟩ = some (.iface 248 (.pointer (some (sp 6)))) := hL.env.err 6 (by omega) (by omega)
        have HD : Hid (Gz.obeyS d s.lim t m sy m.pos = .error (6, m.out)) := by unfold Hid Gz.obeyS; rw [if_neg h1, if_neg h2, if_neg h3]
        go_enter Tryz.func119, Tryz.ntmps119
        go_wp2
        go_ret
        refine ⟨(Fr.refl _ _).alloc _, ?_⟩
        rw [HD.out]
        exact ⟨⟨_, m.pos, HA.out.to ((Fr.refl _ _).alloc _) (hL.of ((Fr.refl _ _).alloc _) (hL.rd.alloc _) rfl rfl rfl) HPOS.out rfl rfl rfl rfl, Keeps.refl _, rfl⟩, Or.inr ⟨by omega, by omega, _, 1, rfl, .fault _ _ _ _ _ (alloc_at w _) (.sent 6 (by omega) (by omega))⟩⟩
end Go.Proofs.YtjjjlilflbddoaaGreatDoor
