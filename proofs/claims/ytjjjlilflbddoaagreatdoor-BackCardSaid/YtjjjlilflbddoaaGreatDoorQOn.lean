import Derived.Test.YtjjjlilflbddoaaGreatDoorCodes
import Derived.Test.YtjjjlilflbddoaaGreatDoorGoOn
import Derived.Defers
import Derived.Recover
namespace Go.Proofs.YtjjjlilflbddoaaGreatDoor
open Go.RowKit

/-- The reader stands where the machine stands, its tables beside it. -/
structure Std (sp : Nat → Addr) (B rb db tsb mb : Nat) (K0 : List Nat) (d : List UInt8) (m : Gz.M) (c : Gz.Tc) (w : World) (s : RS) : Prop where
  at' : At sp B rb db (tsb :: mb :: K0) d m w s
  tabs : TabsAt w K0 tsb mb c
  ts : s.ts = .pointer (some ⟨tsb, 0, none⟩)
  b1 : B ≤ tsb
  b2 : B ≤ mb
  n1 : tsb ∉ K0
  n2 : mb ∉ K0

/-- Steps lead from m to m', maybe with tables asked for. -/
structure LeadX (d : List UInt8) (lim : Nat) (m m' : Gz.M) : Prop where
  same : Gz.final d lim m = Gz.final d lim m'
  upto : m'.pos ≤ 8 * d.length
  on : m.pos ≤ m'.pos
  less : Gz.rank d m' ≤ Gz.rank d m
  sound : Sound m → Sound m'
theorem Lead.x {d : List UInt8} {lim : Nat} {m m' : Gz.M} (h : Lead d lim m m') : LeadX d lim m m' := ⟨h.same, h.upto, h.on, h.less, h.sound⟩
theorem LeadX.refl {d : List UInt8} {lim : Nat} {m : Gz.M} (h : m.pos ≤ 8 * d.length) : LeadX d lim m m := ⟨rfl, h, Nat.le_refl _, Nat.le_refl _, id⟩
theorem LeadX.trans {d : List UInt8} {lim : Nat} {m m' m2 : Gz.M} (h : LeadX d lim m m') (h2 : LeadX d lim m' m2) : LeadX d lim m m2 := ⟨h.same.trans h2.same, h2.upto, Nat.le_trans h.on h2.on, Nat.le_trans h2.less h.less, fun s => h2.sound (h.sound s)⟩
theorem LeadX.one {d : List UInt8} {lim : Nat} {m m' : Gz.M} (h : m.pos ≤ 8 * d.length) (h2 : Gz.step d lim m = .ok m') : LeadX d lim m m' :=
  have e := Gz.step_less h2 h
  ⟨Gz.final_ok h2 h, e.2.1, e.1, Nat.le_of_lt e.2.2, fun s => (step_sound h2 s).1⟩

/-- How the tables have turned. -/
structure Turned (K0 K' : List Nat) (w w' : World) (m m' : Gz.M) (c c' : Gz.Tc) : Prop where
  grow : Grow K0 K' w w'
  asks : ∃ new, m'.asks = m.asks ++ new ∧ c' = c.asks new
  few : c'.asked + m.pos ≤ c.asked + m'.pos
theorem Turned.same {K0 : List Nat} {w w' : World} {m m' : Gz.M} {c : Gz.Tc} (h : m'.asks = m.asks) (hp : m.pos ≤ m'.pos) : Turned K0 K0 w w' m m' c c :=
  ⟨Grow.refl _ _ _, ⟨[], by rw [h, List.append_nil], rfl⟩, by omega⟩
theorem Turned.trans {K0 K1 K2 : List Nat} {w w1 w2 : World} {m m1 m2 : Gz.M} {c c1 c2 : Gz.Tc} (h : Turned K0 K1 w w1 m m1 c c1) (h2 : Turned K1 K2 w1 w2 m1 m2 c1 c2) (hs : w.heap.size ≤ w1.heap.size) (hs2 : w1.heap.size ≤ w2.heap.size) : Turned K0 K2 w w2 m m2 c c2 := by
  obtain ⟨a, ha, hc⟩ := h.asks
  obtain ⟨b, hb, hc2⟩ := h2.asks
  refine ⟨⟨fun k hk => h2.grow.1 k (h.grow.1 k hk), fun k hk => ?_⟩, ⟨a ++ b, by rw [hb, ha, List.append_assoc], by rw [hc2, hc, Gz.Tc.asks_app]⟩, ?_⟩
  · rcases h2.grow.2 k hk with hk | hk
    · rcases h.grow.2 k hk with hk | hk
      · exact Or.inl hk
      · exact Or.inr ⟨hk.1, by omega⟩
    · exact Or.inr ⟨by omega, hk.2⟩
  · have := h.few; have := h2.few; omega

/-- What was met. -/
def BadE (sp : Nat → Addr) (k : Nat) (e : Ending) (w' : World) : Prop := (k = 2 ∧ ShortP w' e) ∨ (3 ≤ k ∧ k ≤ 8 ∧ ∃ v n, e = .returned v ∧ Err sp w' v k n)

/-- A step that was not made. -/
def BadX (sp : Nat → Addr) (B rb db tsb mb : Nat) (K0 : List Nat) (d : List UInt8) (m : Gz.M) (c : Gz.Tc) (w : World) (s : RS) (e : Ending) (w' : World) : Prop :=
  ∃ m1 k o K' c' s' q, LeadX d s.lim m m1 ∧ Gz.step d s.lim m1 = .error (k, o) ∧ Std sp B rb db tsb mb K' d { m1 with out := o, pos := q } c' w' s' ∧ Keeps s s' ∧ s'.bg = m1.pos ∧ Turned K0 K' w w' m m1 c c' ∧ BadE sp k e w'
def GoodX (sp : Nat → Addr) (B rb db tsb mb : Nat) (K0 : List Nat) (d : List UInt8) (m : Gz.M) (c : Gz.Tc) (w : World) (s : RS) (w' : World) : Prop :=
  ∃ m' K' c' s', LeadX d s.lim m m' ∧ Gz.rank d m' < Gz.rank d m ∧ Std sp B rb db tsb mb K' d m' c' w' s' ∧ Keeps s s' ∧ Turned K0 K' w w' m m' c c'
/-- How a reading on comes to its end. -/
def RanX (sp : Nat → Addr) (B rb db tsb mb : Nat) (K0 : List Nat) (d : List UInt8) (m : Gz.M) (c : Gz.Tc) (w : World) (s : RS) (e : Ending) (w' : World) : Prop :=
  Fr (Own B K0) w w' ∧ ((e = .returned .nilIface ∧ GoodX sp B rb db tsb mb K0 d m c w s w') ∨ BadX sp B rb db tsb mb K0 d m c w s e w')
/-- .. one step. -/
def RanY (sp : Nat → Addr) (B rb db tsb mb : Nat) (K0 : List Nat) (d : List UInt8) (m : Gz.M) (c : Gz.Tc) (w : World) (s : RS) (e : Ending) (w' : World) : Prop :=
  Fr (Own B K0) w w' ∧ ((e = .returned .nilIface ∧ ∃ m' K' c' s', Gz.step d s.lim m = .ok m' ∧ Std sp B rb db tsb mb K' d m' c' w' s' ∧ Keeps s s' ∧ Turned K0 K' w w' m m' c c') ∨ BadX sp B rb db tsb mb K0 d m c w s e w')

section
variable {sp : Nat → Addr} {B rb db tsb mb : Nat} {K0 : List Nat} {d : List UInt8} {m : Gz.M} {c : Gz.Tc} {w : World} {s : RS} {e : Ending} {w' : World}
theorem Std.tabsFr (h : Std sp B rb db tsb mb K0 d m c w s) (f : Fr (Own B (tsb :: mb :: K0)) w w') : TabsAt w' K0 tsb mb c :=
  h.tabs.fr f (fun e => e.2 (by simp)) (fun e => e.2 (by simp)) (fun k hk e => e.2 (by simp [hk]))
theorem Std.upFr (f : Fr (Own B (tsb :: mb :: K0)) w w') : Fr (Own B K0) w w' := f.up (fun k hk => by simp [hk])
theorem RanL.x (h : RanL sp B rb db (tsb :: mb :: K0) d m w s e w') (hS : Std sp B rb db tsb mb K0 d m c w s) : RanX sp B rb db tsb mb K0 d m c w s e w' := by
  obtain ⟨f, ⟨rfl, m', s', hl, hr, ha, hk⟩ | ⟨m1, k, o, hl, hst, ⟨s', q, ha, hk, hb⟩, hbad⟩⟩ := h
  · exact ⟨Std.upFr f, Or.inl ⟨rfl, m', K0, c, s', hl.x, hr, ⟨ha, hS.tabsFr f, hk.ts.trans hS.ts, hS.b1, hS.b2, hS.n1, hS.n2⟩, hk, Turned.same hl.asks hl.on⟩⟩
  · exact ⟨Std.upFr f, Or.inr ⟨m1, k, o, K0, c, s', q, hl.x, hst, ⟨ha, hS.tabsFr f, hk.ts.trans hS.ts, hS.b1, hS.b2, hS.n1, hS.n2⟩, hk, hb, Turned.same hl.asks hl.on, hbad⟩⟩
theorem RanY.x (h : RanY sp B rb db tsb mb K0 d m c w s e w') (hp : m.pos ≤ 8 * d.length) : RanX sp B rb db tsb mb K0 d m c w s e w' := by
  obtain ⟨f, ⟨rfl, m', K', c', s', hst, hS, hk, ht⟩ | hb⟩ := h
  · exact ⟨f, Or.inl ⟨rfl, m', K', c', s', LeadX.one hp hst, (Gz.step_less hst hp).2.2, hS, hk, ht⟩⟩
  · exact ⟨f, Or.inr hb⟩
theorem BadX.after {m1 : Gz.M} {K1 : List Nat} {c1 : Gz.Tc} {w1 : World} {s1 : RS} (h : BadX sp B rb db tsb mb K1 d m1 c1 w1 s1 e w') (hl : LeadX d s.lim m m1) (hk : Keeps s s1) (ht : Turned K0 K1 w w1 m m1 c c1) (hs : w.heap.size ≤ w1.heap.size) (hs2 : w1.heap.size ≤ w'.heap.size) : BadX sp B rb db tsb mb K0 d m c w s e w' := by
  obtain ⟨m2, k, o, K', c', s', q, h1, h2, h3, h4, h5, h6, h7⟩ := h
  rw [hk.lim] at h1 h2
  exact ⟨m2, k, o, K', c', s', q, hl.trans h1, h2, h3, hk.trans h4, h5, ht.trans h6 hs hs2, h7⟩
theorem GoodX.after {m1 : Gz.M} {K1 : List Nat} {c1 : Gz.Tc} {w1 : World} {s1 : RS} (h : GoodX sp B rb db tsb mb K1 d m1 c1 w1 s1 w') (hl : LeadX d s.lim m m1) (hk : Keeps s s1) (ht : Turned K0 K1 w w1 m m1 c c1) (hs : w.heap.size ≤ w1.heap.size) (hs2 : w1.heap.size ≤ w'.heap.size) : GoodX sp B rb db tsb mb K0 d m c w s w' := by
  obtain ⟨m2, K', c', s', h1, h2, h3, h4, h6⟩ := h
  rw [hk.lim] at h1
  exact ⟨m2, K', c', s', hl.trans h1, Nat.lt_of_lt_of_le h2 hl.less, h3, hk.trans h4, ht.trans h6 hs hs2⟩
theorem RanX.after {m1 : Gz.M} {K1 : List Nat} {c1 : Gz.Tc} {w1 : World} {s1 : RS} (h : RanX sp B rb db tsb mb K1 d m1 c1 w1 s1 e w') (f : Fr (Own B K0) w w1) (hl : LeadX d s.lim m m1) (hk : Keeps s s1) (ht : Turned K0 K1 w w1 m m1 c c1) : RanX sp B rb db tsb mb K0 d m c w s e w' := by
  obtain ⟨f2, h⟩ := h
  refine ⟨f.trans (f2.up (fun k hk => ht.grow.1 k hk)), ?_⟩
  rcases h with ⟨he, h⟩ | h
  · exact Or.inl ⟨he, h.after hl hk ht f.size f2.size⟩
  · exact Or.inr (h.after hl hk ht f.size f2.size)
end

theorem head_x (sp : Nat → Addr) (B rb db tsb mb : Nat) (K0 : List Nat) (d : List UInt8) (m : Gz.M) (c : Gz.Tc) (w : World) (s : RS) (hS : Std sp B rb db tsb mb K0 d m c w s) (hpl : m.pl = 0) (hpos : m.pos ≤ 8 * d.length) :
    Calls Tryz.prog 84 #[.pointer (some ⟨rb, 0, none⟩)] w (RanX sp B rb db tsb mb K0 d m c w s) := by
  refine (head_any sp B rb db _ s d m w hS.at' hpl hpos).mono ?_
  rintro e w' ⟨f, hres⟩
  refine RanY.x ⟨Std.upFr f, ?_⟩ hpos
  cases hst : Gz.step d s.lim m with
  | ok m' =>
    rw [hst] at hres
    obtain ⟨rfl, L, s', hL, hA, hk⟩ := hres
    have hlt := hS.tabs.lt
    have hltm := hS.tabs.ltm
    have e1 : ∀ k, k ∈ L ++ (tsb :: mb :: K0) ↔ k ∈ tsb :: mb :: (L ++ K0) := fun k => by
      simp only [List.mem_append, List.mem_cons]
      constructor
      · rintro (h | h | h | h)
        · exact Or.inr (Or.inr (Or.inl h))
        · exact Or.inl h
        · exact Or.inr (Or.inl h)
        · exact Or.inr (Or.inr (Or.inr h))
      · rintro (h | h | h | h)
        · exact Or.inr (Or.inl h)
        · exact Or.inr (Or.inr (Or.inl h))
        · exact Or.inl h
        · exact Or.inr (Or.inr (Or.inr h))
    refine Or.inl ⟨rfl, m', L ++ K0, c, s', rfl, ⟨hA.same e1, (hS.tabsFr f).sub (fun k hk => List.mem_append_right _ hk), hk.ts.trans hS.ts, hS.b1, hS.b2, fun h => ?_, fun h => ?_⟩, hk, ⟨⟨fun k hk => List.mem_append_right _ hk, fun k hk => ?_⟩, ⟨[], ?_, rfl⟩, ?_⟩⟩
    · rcases List.mem_append.1 h with h | h
      · have := hL _ h; omega
      · exact hS.n1 h
    · rcases List.mem_append.1 h with h | h
      · have := hL _ h; omega
      · exact hS.n2 h
    · rcases List.mem_append.1 hk with h | h
      · exact Or.inr (hL _ h)
      · exact Or.inl h
    · rw [List.append_nil]; exact step_asks hst (by rw [hpl]; decide)
    · have := (Gz.step_less hst hpos).1; omega
  | error ko =>
    obtain ⟨k, o⟩ := ko
    rw [hst] at hres
    obtain ⟨⟨s', q, hA, hk, hb⟩, hbad⟩ := hres
    exact Or.inr ⟨m, k, o, K0, c, s', q, LeadX.refl hpos, hst, ⟨hA, hS.tabsFr f, hk.ts.trans hS.ts, hS.b1, hS.b2, hS.n1, hS.n2⟩, hk, hb, Turned.same rfl (Nat.le_refl _), hbad⟩

theorem sizes_x (sp : Nat → Addr) (B rb db tsb mb : Nat) (K0 : List Nat) (d : List UInt8) (m : Gz.M) (c : Gz.Tc) (w : World) (s : RS) (hS : Std sp B rb db tsb mb K0 d m c w s) (hpl : m.pl = 1) (hpos : m.pos ≤ 8 * d.length) :
    Calls Tryz.prog 85 #[.pointer (some ⟨rb, 0, none⟩)] w (RanY sp B rb db tsb mb K0 d m c w s) := by
  refine (sizes_any sp B rb db _ s d m w hS.at' hpl hpos).mono ?_
  rintro e w' ⟨f, hres⟩
  refine ⟨Std.upFr f, ?_⟩
  cases hst : Gz.step d s.lim m with
  | ok m' =>
    rw [hst] at hres
    obtain ⟨rfl, s', hA, hk⟩ := hres
    exact Or.inl ⟨rfl, m', K0, c, s', rfl, ⟨hA, hS.tabsFr f, hk.ts.trans hS.ts, hS.b1, hS.b2, hS.n1, hS.n2⟩, hk, Turned.same (step_asks hst (by rw [hpl]; decide)) (Gz.step_less hst hpos).1⟩
  | error ko =>
    obtain ⟨k, o⟩ := ko
    rw [hst] at hres
    obtain ⟨⟨s', q, hA, hk, hb⟩, hbad⟩ := hres
    exact Or.inr ⟨m, k, o, K0, c, s', q, LeadX.refl hpos, hst, ⟨hA, hS.tabsFr f, hk.ts.trans hS.ts, hS.b1, hS.b2, hS.n1, hS.n2⟩, hk, hb, Turned.same rfl (Nat.le_refl _), hbad⟩

theorem codes_x (sp : Nat → Addr) (B rb db tsb mb : Nat) (K0 : List Nat) (d : List UInt8) (m : Gz.M) (c : Gz.Tc) (w : World) (s : RS) (hS : Std sp B rb db tsb mb K0 d m c w s) (hpl : m.pl = 3) (hpos : m.pos ≤ 8 * d.length) (hask : c.asked < 2 ^ 62) :
    Calls Tryz.prog 87 #[.pointer (some ⟨rb, 0, none⟩)] w (RanY sp B rb db tsb mb K0 d m c w s) := by
  have hL := hS.at'.live
  have hpe := hS.at'.pos
  have hrK : rb ∉ K0 := fun h => hL.rbK (by simp [h])
  have hlt : ∀ k ∈ K0, k < w.heap.size := fun k hk => hL.klt k (by simp [hk])
  refine (codes_any sp rb db s d w hL.dlen (hL.ne hL.dbK) hL.r13 (hL.klt db hL.dbK) hL.env hL.rd hL.dat (by rw [hpe]; exact hpos) K0 tsb mb c hS.tabs hS.ts hlt hS.n1 hS.n2 hrK hask).mono ?_
  rintro e w' hres
  have hstep : Gz.step d s.lim m = Gz.thenS (Gz.keys d s.pos) m.out fun l q => .ok { m with pl := 4, tab := some (Gz.makeTable l), asks := m.asks ++ [l], pos := q } := by unfold Gz.step; rw [hpl, hpe]; rfl
  cases hky : Gz.keys d s.pos with
  | ok okk =>
    obtain ⟨l, q⟩ := okk
    rw [hky] at hres
    have hst : Gz.step d s.lim m = .ok { m with pl := 4, tab := some (Gz.makeTable l), asks := m.asks ++ [l], pos := q } := by rw [hstep, hky]; rfl
    obtain ⟨f, rfl, hkl, tb, s1, s2, K', hT, hTs, hG, hr⟩ := hres
    have hltt := hS.tabs.lt
    have hltm := hS.tabs.ltm
    have hrb := hL.brb
    have fO : Fr (Own B K0) w w' := f.mono (fun k _ e => by
      rcases e with rfl | rfl | rfl
      · exact ⟨hrb, hrK⟩
      · exact ⟨hS.b1, hS.n1⟩
      · exact ⟨hS.b2, hS.n2⟩)
    have hne1 := hS.tabs.ne hL.rd
    have hne2 := hS.tabs.nem hL.rd
    have hdb : db ∈ tsb :: mb :: K0 := hL.dbK
    have hovlt : ∀ k, s.ov.ownBlock = some k → k < w.heap.size := fun k hk => hL.ovlt hk
    have hrl := hL.rd.lt
    -- the data's block is none of those that the tables write
    have hdbn : ¬ (db = rb ∨ Duo tsb mb db) ∨ d.length = 0 := by
      by_cases h0 : d.length = 0
      · exact Or.inr h0
      · left
        obtain ⟨a, cap, hv, hc⟩ := hL.dat
        have hc0 := (hc 0 (by omega)).2.2
        rintro (h | h | h)
        · exact hL.ne hL.dbK h
        · rw [h] at hc0; rw [cell_of hS.tabs.blk] at hc0; simp at hc0
        · obtain ⟨D, ⟨es, clock, hb, _⟩, _⟩ := hS.tabs.map
          rw [h] at hc0
          simp [World.cell?, hb] at hc0
    have hdat : Dat w' db s.dv d := by
      rcases hdbn with h | h
      · exact hL.dat.fr f h
      · obtain ⟨a, cap, hv, hc⟩ := hL.dat
        exact ⟨a, cap, hv, fun i hi => by omega⟩
    have hovn : ∀ k, s.ov.ownBlock = some k → ¬ (k = rb ∨ Duo tsb mb k) := fun k hk e => by
      have h1 := hL.apart k hk
      rcases e with h | h | h
      · exact h1.1 h
      · exact h1.2 (by simp [h])
      · exact h1.2 (by simp [h])
    have hmem : ∀ k, k ∈ tsb :: mb :: K' → k ∈ tsb :: mb :: K0 ∨ (w.heap.size ≤ k ∧ k < w'.heap.size) := fun k hk => by
      simp only [List.mem_cons] at hk ⊢
      rcases hk with h | h | h
      · exact Or.inl (Or.inl h)
      · exact Or.inl (Or.inr (Or.inl h))
      · rcases hG.2 k h with h | h
        · exact Or.inl (Or.inr (Or.inr h))
        · exact Or.inr h
    have hLive : Live sp B rb db (tsb :: mb :: K') d m.out w' { s with pos := q, bg := s.pos, tb := .pointer (some ⟨tb, 0, none⟩), pl := 4 } := by
      have h13 := hL.b13
      refine ⟨hL.env.fr fO (fun k hk e => by have := e.1; omega), hr, hdat, ownsRow_fr hL.row f (fun g hg => hovn g hg), fun k hk => ⟨(hL.apart k hk).1, fun h => ?_⟩, h13, Nat.le_trans hL.bsz f.size, hrb, ?_, fun h => ?_, fun k hk => ?_, hL.lim, hL.len, hL.dlen⟩
      · rcases hmem k h with h | h
        · exact (hL.apart k hk).2 h
        · have := hovlt k hk; omega
      · simp only [List.mem_cons] at hdb ⊢
        rcases hdb with h | h | h
        · exact Or.inl h
        · exact Or.inr (Or.inl h)
        · exact Or.inr (Or.inr (hG.1 db h))
      · rcases hmem rb h with h | h
        · exact hL.rbK h
        · omega
      · rcases hmem k hk with h | h
        · exact Nat.lt_of_lt_of_le (hL.klt k h) f.size
        · exact h.2
    refine ⟨fO, Or.inl ⟨rfl, _, K', c.ask l, _, hst, ⟨⟨hLive, rfl, rfl, hS.at'.la, hS.at'.le, tb, s1, s2, rfl, hT.sub (fun k hk => by simp [hk])⟩, hTs, hS.ts, hS.b1, hS.b2, fun h => ?_, fun h => ?_⟩, ⟨rfl, rfl, rfl, rfl⟩, ⟨hG, ⟨[l], rfl, rfl⟩, ?_⟩⟩⟩
    · rcases hG.2 tsb h with h | h
      · exact hS.n1 h
      · omega
    · rcases hG.2 mb h with h | h
      · exact hS.n2 h
      · omega
    · have := (Gz.keys_ok hky).1
      show c.asked + 1 + m.pos ≤ c.asked + q
      omega
  | error k =>
    rw [hky] at hres
    have hst : Gz.step d s.lim m = .error (k, m.out) := by rw [hstep, hky]; rfl
    obtain ⟨f, ⟨q, hr⟩, hbad⟩ := hres
    have fO := hL.one f
    refine ⟨Std.upFr fO, Or.inr ⟨m, k, m.out, K0, c, _, q, LeadX.refl hpos, hst, ⟨hS.at'.to fO (hL.of f hr rfl rfl rfl) rfl rfl rfl rfl rfl, hS.tabsFr fO, hS.ts, hS.b1, hS.b2, hS.n1, hS.n2⟩, ⟨rfl, rfl, rfl, rfl⟩, hpe, Turned.same rfl (Nat.le_refl _), hbad⟩⟩
end Go.Proofs.YtjjjlilflbddoaaGreatDoor
namespace Go.Proofs.YtjjjlilflbddoaaGreatDoor
open Go.RowKit

section
variable {sp : Nat → Addr} {B rb db tsb mb : Nat} {K0 : List Nat} {d : List UInt8} {m : Gz.M} {c : Gz.Tc} {w : World} {s : RS} {e : Ending} {w' : World}
theorem BadX.shape (h : BadX sp B rb db tsb mb K0 d m c w s e w') : (∃ p, e = .panicked [{ v := .iface 91 (.pointer (some ⟨p, 0, none⟩)), recovered := false }]) ∨ ∃ ty x, e = .returned (.iface ty x) := by
  obtain ⟨m1, k, o, K', c', s', q, _, _, _, _, _, _, hb⟩ := h
  rcases hb with ⟨_, p, n, rfl, _⟩ | ⟨_, _, v, n, rfl, hv⟩
  · exact Or.inl ⟨p, rfl⟩
  · obtain ⟨ty, p, rfl⟩ := hv.iface
    exact Or.inr ⟨ty, _, rfl⟩
end
theorem step_pl1 {d : List UInt8} {lim : Nat} {m m' : Gz.M} (h : Gz.step d lim m = .ok m') (hp : m.pl = 1) : m'.pl = 2 := by
  unfold Gz.step at h
  rw [hp] at h
  obtain ⟨x, q, _, h⟩ := Gz.thenS_ok h
  cases h; rfl
theorem step_pl3 {d : List UInt8} {lim : Nat} {m m' : Gz.M} (h : Gz.step d lim m = .ok m') (hp : m.pl = 3) : m'.pl = 4 := by
  unfold Gz.step at h
  rw [hp] at h
  obtain ⟨x, q, _, h⟩ := Gz.thenS_ok h
  cases h; rfl

theorem symbols_x (sp : Nat → Addr) (B rb db tsb mb : Nat) (K0 : List Nat) (d : List UInt8) (m : Gz.M) (c : Gz.Tc) (w : World) (s : RS) (hS : Std sp B rb db tsb mb K0 d m c w s) (h : m.pl = 4) (hpos : m.pos ≤ 8 * d.length) (hso : Sound m) :
    Calls Tryz.prog 88 #[.pointer (some ⟨rb, 0, none⟩)] w (RanX sp B rb db tsb mb K0 d m c w s) := by
  obtain ⟨t, ht⟩ := hso.tab h
  exact (symbols_any sp B rb db _ s d m t w hS.at' h ht hpos).mono (fun _ _ hX => hX.x hS)
theorem bytes_x (sp : Nat → Addr) (B rb db tsb mb : Nat) (K0 : List Nat) (d : List UInt8) (m : Gz.M) (c : Gz.Tc) (w : World) (s : RS) (hS : Std sp B rb db tsb mb K0 d m c w s) (h : m.pl = 2) (hpos : m.pos ≤ 8 * d.length) (hso : Sound m) :
    Calls Tryz.prog 86 #[.pointer (some ⟨rb, 0, none⟩)] w (RanX sp B rb db tsb mb K0 d m c w s) :=
  (storedBytes_any sp B rb db _ s d m w hS.at' h (hso.le h) hpos).mono (fun _ _ hX => hX.x hS)

set_option maxRecDepth 100000 in
set_option maxHeartbeats 1600000 in
theorem goOn_any (sp : Nat → Addr) (B rb db tsb mb : Nat) (K0 : List Nat) (d : List UInt8) (m : Gz.M) (c : Gz.Tc) (w : World) (s : RS) (hS : Std sp B rb db tsb mb K0 d m c w s) (hso : Sound m) (hpl : m.pl ≤ 4) (hpos : m.pos ≤ 8 * d.length) (hask : c.asked < 2 ^ 62) :
    Calls Tryz.prog 54 #[.pointer (some ⟨rb, 0, none⟩)] w (RanX sp B rb db tsb mb K0 d m c w s) := by
  have hne := neq_err
  have hnn := neq_nil
  have hcase : m.pl = 0 ∨ m.pl = 1 ∨ m.pl = 2 ∨ m.pl = 3 ∨ m.pl = 4 := by omega
  rcases hcase with h | h | h | h | h
  · have k5 : w.cell? ⟨rb, 6, none⟩ = some (.int .i64 0) := by rw [hS.at'.live.rd.c5, hS.at'.pl, h]; rfl
    go_enter Tryz.func54, Tryz.ntmps54
    go_wp2_with fail
    refine (head_x sp B rb db tsb mb K0 d m c w s hS h hpos).mono ?_
    rintro e w1 hX0
    obtain ⟨f1, hX⟩ := hX0
    rcases hX with ⟨rfl, hg⟩ | hb
    · have HGD := hide hg
      clear hg
      go_wp2
      go_ret
      exact ⟨f1, Or.inl ⟨rfl, HGD.out⟩⟩
    · rcases hb.shape with ⟨p, rfl⟩ | ⟨ty, x, rfl⟩
      · have HBD := hide hb
        clear hb
        go_wp2
        exact bodyPost_panic rfl (⟨f1, Or.inr HBD.out⟩)
      · have HBD := hide hb
        clear hb
        go_wp2
        go_ret
        exact ⟨f1, Or.inr HBD.out⟩
  · have k5 : w.cell? ⟨rb, 6, none⟩ = some (.int .i64 1) := by rw [hS.at'.live.rd.c5, hS.at'.pl, h]; rfl
    go_enter Tryz.func54, Tryz.ntmps54
    go_wp2_with fail
    refine (sizes_x sp B rb db tsb mb K0 d m c w s hS h hpos).mono ?_
    rintro e w1 ⟨f1, ⟨rfl, m1, K1, c1, s1, hst, hS1, hk1, ht1⟩ | hb⟩
    · have hl1 := LeadX.one hpos hst
      have hpl1 := step_pl1 hst h
      have HL1 := hide hl1
      have HT1 := hide ht1
      have HK1 := hide hk1
      have HS1 := hide hS1
      have HCALL := hide (bytes_x sp B rb db tsb mb K1 d m1 c1 w1 s1 hS1 hpl1 hl1.upto (hl1.sound hso))
      clear hl1 ht1 hk1 hS1 hst
      go_wp2_with fail
      refine HCALL.out.mono ?_
      rintro e w2 hX0
      have hX0 := hX0.after f1 HL1.out HK1.out HT1.out
      obtain ⟨f2, hX⟩ := hX0
      rcases hX with ⟨rfl, hg⟩ | hb
      · have HGD := hide hg
        clear hg
        go_wp2
        go_ret
        exact ⟨f2, Or.inl ⟨rfl, HGD.out⟩⟩
      · rcases hb.shape with ⟨p, rfl⟩ | ⟨ty, x, rfl⟩
        · have HBD := hide hb
          clear hb
          go_wp2
          exact bodyPost_panic rfl (⟨f2, Or.inr HBD.out⟩)
        · have HBD := hide hb
          clear hb
          go_wp2
          go_ret
          exact ⟨f2, Or.inr HBD.out⟩
    · rcases hb.shape with ⟨p, rfl⟩ | ⟨ty, x, rfl⟩
      · have HBD := hide hb
        clear hb
        go_wp2
        exact bodyPost_panic rfl (⟨f1, Or.inr HBD.out⟩)
      · have HBD := hide hb
        clear hb
        go_wp2
        go_ret
        exact ⟨f1, Or.inr HBD.out⟩
  · have k5 : w.cell? ⟨rb, 6, none⟩ = some (.int .i64 2) := by rw [hS.at'.live.rd.c5, hS.at'.pl, h]; rfl
    go_enter Tryz.func54, Tryz.ntmps54
    go_wp2_with fail
    refine (bytes_x sp B rb db tsb mb K0 d m c w s hS h hpos hso).mono ?_
    rintro e w1 hX0
    obtain ⟨f1, hX⟩ := hX0
    rcases hX with ⟨rfl, hg⟩ | hb
    · have HGD := hide hg
      clear hg
      go_wp2
      go_ret
      exact ⟨f1, Or.inl ⟨rfl, HGD.out⟩⟩
    · rcases hb.shape with ⟨p, rfl⟩ | ⟨ty, x, rfl⟩
      · have HBD := hide hb
        clear hb
        go_wp2
        exact bodyPost_panic rfl (⟨f1, Or.inr HBD.out⟩)
      · have HBD := hide hb
        clear hb
        go_wp2
        go_ret
        exact ⟨f1, Or.inr HBD.out⟩
  · have k5 : w.cell? ⟨rb, 6, none⟩ = some (.int .i64 3) := by rw [hS.at'.live.rd.c5, hS.at'.pl, h]; rfl
    go_enter Tryz.func54, Tryz.ntmps54
    go_wp2_with fail
    refine (codes_x sp B rb db tsb mb K0 d m c w s hS h hpos hask).mono ?_
    rintro e w1 ⟨f1, ⟨rfl, m1, K1, c1, s1, hst, hS1, hk1, ht1⟩ | hb⟩
    · have hl1 := LeadX.one hpos hst
      have hpl1 := step_pl3 hst h
      have HL1 := hide hl1
      have HT1 := hide ht1
      have HK1 := hide hk1
      have HS1 := hide hS1
      have HCALL := hide (symbols_x sp B rb db tsb mb K1 d m1 c1 w1 s1 hS1 hpl1 hl1.upto (hl1.sound hso))
      clear hl1 ht1 hk1 hS1 hst
      go_wp2_with fail
      refine HCALL.out.mono ?_
      rintro e w2 hX0
      have hX0 := hX0.after f1 HL1.out HK1.out HT1.out
      obtain ⟨f2, hX⟩ := hX0
      rcases hX with ⟨rfl, hg⟩ | hb
      · have HGD := hide hg
        clear hg
        go_wp2
        go_ret
        exact ⟨f2, Or.inl ⟨rfl, HGD.out⟩⟩
      · rcases hb.shape with ⟨p, rfl⟩ | ⟨ty, x, rfl⟩
        · have HBD := hide hb
          clear hb
          go_wp2
          exact bodyPost_panic rfl (⟨f2, Or.inr HBD.out⟩)
        · have HBD := hide hb
          clear hb
          go_wp2
          go_ret
          exact ⟨f2, Or.inr HBD.out⟩
    · rcases hb.shape with ⟨p, rfl⟩ | ⟨ty, x, rfl⟩
      · have HBD := hide hb
        clear hb
        go_wp2
        exact bodyPost_panic rfl (⟨f1, Or.inr HBD.out⟩)
      · have HBD := hide hb
        clear hb
        go_wp2
        go_ret
        exact ⟨f1, Or.inr HBD.out⟩
  · have k5 : w.cell? ⟨rb, 6, none⟩ = some (.int .i64 4) := by rw [hS.at'.live.rd.c5, hS.at'.pl, h]; rfl
    go_enter Tryz.func54, Tryz.ntmps54
    go_wp2_with fail
    refine (symbols_x sp B rb db tsb mb K0 d m c w s hS h hpos hso).mono ?_
    rintro e w1 hX0
    obtain ⟨f1, hX⟩ := hX0
    rcases hX with ⟨rfl, hg⟩ | hb
    · have HGD := hide hg
      clear hg
      go_wp2
      go_ret
      exact ⟨f1, Or.inl ⟨rfl, HGD.out⟩⟩
    · rcases hb.shape with ⟨p, rfl⟩ | ⟨ty, x, rfl⟩
      · have HBD := hide hb
        clear hb
        go_wp2
        exact bodyPost_panic rfl (⟨f1, Or.inr HBD.out⟩)
      · have HBD := hide hb
        clear hb
        go_wp2
        go_ret
        exact ⟨f1, Or.inr HBD.out⟩
end Go.Proofs.YtjjjlilflbddoaaGreatDoor
namespace Go.Proofs.YtjjjlilflbddoaaGreatDoor
open Go.RowKit

theorem m20 : Tryz.prog.underlying 20 = some (.interface (Tryz.prog.methodsAt 20)) := by kernel_rfl
theorem eql_any (u : TypeId) (x : Value) (w : World) : (binOp .eql 20 (.iface u x) .nilIface).run Tryz.prog w = .ok (.bool false) w := run_eql_held_nil _ 20 u x m20
theorem eql_nil (w : World) : (binOp .eql 20 .nilIface .nilIface).run Tryz.prog w = .ok (.bool true) w := run_eql_nil_nil _ 20 m20

theorem wp_monoQ {P : Program} {c : Code} {Q Q' : Exit → Act → World → Prop} {a : Act} {w : World} (h : c.wp P Q a w) (hq : ∀ e a w, Q e a w → Q' e a w) : c.wp P Q' a w :=
  fun b k cs => let ⟨e, a', w', q, r⟩ := h b k cs; ⟨e, a', w', hq _ _ _ q, r⟩

theorem postS {P : Program} {fn : Func} {c₀ : Frame} {cs : List Frame} {u' : FrameMode} {R : Ending → FrameMode → World → Prop} {R' : Ending → World → Prop} (hR : ∀ e w, R' e w → R e u' w) :
    ∀ e a w, bodyPost P fn R' e a w → bodyPostS P fn c₀ cs R e a ({ c₀ with mode := u' } :: cs) w := by
  intro e a w h
  cases e with
  | normal => obtain ⟨h1, v, h2, h3⟩ := h; exact ⟨h1, u', rfl, v, h2, hR _ _ h3⟩
  | ret => obtain ⟨h1, v, h2, h3⟩ := h; exact ⟨h1, u', rfl, v, h2, hR _ _ h3⟩
  | panic ch => obtain ⟨h1, h3⟩ := h; exact ⟨h1, u', rfl, hR _ _ h3⟩
  | outgrown => exact ⟨u', hR _ _ h⟩
  | exit i => exact h.elim
  | goto l => exact h.elim

set_option maxHeartbeats 400000 in
theorem catch_idle (rx eb : Nat) (w : World) :
    CallsD Tryz.prog 53 #[.pointer (some ⟨rx, 0, none⟩), .pointer (some ⟨eb, 0, none⟩)] .returning w fun e u' w' => e = .returned (.tuple #[]) ∧ u' = .returning ∧ w' = w := by
  have he := eql_nil
  refine callsD_of_wpS Tryz.func53 rfl fun c₀ cs hu => ?_
  simp only [Tryz.ntmps53, List.size_toArray, List.length_cons, List.length_nil, Nat.reduceAdd, Nat.reduceSub, Array.replicate_succ, Array.replicate_zero, List.push_toArray, List.append_toArray, List.nil_append, List.cons_append]
  apply wpS_seq
  apply wpS_region
  simp [wpOpsS, go_sem, recoverD, hu, Exit.thenS]
  refine wpS_of_wp ?_
  have hc : c₀ :: cs = { c₀ with mode := .returning } :: cs := by rw [← hu]
  rw [hc]
  refine wp_monoQ (Q := bodyPost Tryz.prog Tryz.f53 (fun e w' => e = .returned (.tuple #[]) ∧ w' = w)) ?_ (postS (fun e w' h => ⟨h.1, rfl, h.2⟩))
  clear hc
  go_wp2
  first | go_end0 | refine bodyPost_ret (results_none rfl _ _ _) rfl ?_
  exact ⟨rfl, rfl⟩

theorem run_assert (x : Value) (w : World) : (Instr.typeAssert (.iface 91 x) 20 91 true).run Tryz.prog w = .ok (.tuple #[x, .bool true]) w := by
  simp [Instr.typeAssert, run_underlying Tryz.underlying91]

set_option maxRecDepth 100000 in
set_option maxHeartbeats 800000 in
theorem catch_short (rx eb rb p : Nat) (s : RS) (ev : Value) (w : World) (hbx : w.heap[rx]? = some (.cells #[.pointer (some ⟨rb, 0, none⟩)] 50 (0, 0))) (hbe : w.heap[eb]? = some (.cells #[ev] 55 (0, 0))) (hr : Rd w rb s) (hne : eb ≠ rb) (htop : capB s.bg ≤ s.top) :
    CallsD Tryz.prog 53 #[.pointer (some ⟨rx, 0, none⟩), .pointer (some ⟨eb, 0, none⟩)] (.panicking [{ v := .iface 91 (.pointer (some ⟨p, 0, none⟩)), recovered := false }]) w fun e u' w' =>
      e = .returned (.tuple #[]) ∧ u' = .panicking [{ v := .iface 91 (.pointer (some ⟨p, 0, none⟩)), recovered := true }] ∧ w'.heap[eb]? = some (.cells #[.iface 91 (.pointer (some ⟨p, 0, none⟩))] 55 (0, 0)) ∧ Rd w' rb { s with pos := capB s.bg } ∧ Fr (fun k => k = rb ∨ k = eb) w w' := by
  have hx : w.cell? ⟨rx, 0, none⟩ = some (.pointer (some ⟨rb, 0, none⟩)) := by rw [cell_of hbx]; rfl
  have he : w.cell? ⟨eb, 0, none⟩ = some ev := by rw [cell_of hbe]; rfl
  have hz := frozen_of hbe 0
  have HBE := hide hbe
  clear hbx hbe
  have he1 := eql_any
  have hta := run_assert
  have k1 := hr.c1
  have k2 := hr.c2
  have f1 := hr.fz 2
  have hnot : ∀ (x : Bool) (w : World), (Op.unary .not (.bool x)).run Tryz.prog w = .ok (.bool (!x)) w := fun _ _ => rfl
  refine callsD_of_wpS Tryz.func53 rfl fun c₀ cs hu => ?_
  simp only [Tryz.ntmps53, List.size_toArray, List.length_cons, List.length_nil, Nat.reduceAdd, Nat.reduceSub, Array.replicate_succ, Array.replicate_zero, List.push_toArray, List.append_toArray, List.nil_append, List.cons_append]
  apply wpS_seq
  apply wpS_region
  simp [wpOpsS, go_sem, recoverD, hu, Exit.thenS]
  refine wpS_of_wp ?_
  refine wp_monoQ (Q := bodyPost Tryz.prog Tryz.f53 (fun e w' => e = .returned (.tuple #[]) ∧ w'.heap[eb]? = some (.cells #[.iface 91 (.pointer (some ⟨p, 0, none⟩))] 55 (0, 0)) ∧ Rd w' rb { s with pos := capB s.bg } ∧ Fr (fun k => k = rb ∨ k = eb) w w')) ?_ (postS (fun e w' h => ⟨h.1, rfl, h.2⟩))
  go_wp2
  go_region
  all_goals
    go_wp2
    first | go_end0 | refine bodyPost_ret (results_none rfl _ _ _) rfl ?_
    refine ⟨rfl, ?_, ?_, ?_⟩
    · have h1 : (w.setCell ⟨rb, 2, none⟩ (.int .i64 (capB s.bg))).heap[eb]? = some (.cells #[ev] 55 (0, 0)) := by rw [set_other _ _ hne]; exact HBE.out
      exact set_of h1 0 _
    · have h1 : Rd (w.setCell ⟨rb, 2, none⟩ (.int .i64 (capB s.bg))) rb { s with pos := capB s.bg } := hr.s1 _ _ rfl htop
      refine ⟨?_, h1.2⟩
      show ((w.setCell ⟨rb, 2, none⟩ (.int .i64 (capB s.bg))).setCell ⟨eb, 0, none⟩ _).heap[rb]? = _
      rw [set_other _ _ (fun e => hne e.symm)]; exact h1.1
    · exact (((Fr.refl _ _).setCell (fun _ => Or.inl rfl) _).setCell (fun _ => Or.inr rfl) _).drew

theorem setCell_self {w : World} {b i : Nat} {c : Array Value} {t : TypeId} {z : Nat × Nat} {v : Value} (h : w.heap[b]? = some (.cells c t z)) (hv : c[i]? = some v) : w.setCell ⟨b, i, none⟩ v = w := by
  have hc : c.setIfInBounds i v = c := by
    apply Array.ext_getElem?
    intro j
    rw [Array.getElem?_setIfInBounds]
    split
    · rename_i e; subst e
      rw [hv]
      have : i < c.size := (Array.getElem?_eq_some_iff.1 hv).1
      simp [this]
    · rfl
  have hh : (w.setCell ⟨b, i, none⟩ v).heap = w.heap := by
    apply Array.ext_getElem?
    intro k
    by_cases e : k = b
    · subst e; rw [set_of h, hc, h]
    · rw [set_other _ _ e]
  cases w
  simp only [World.setCell] at hh ⊢
  simp only [hh]

/-- An error's blocks are none of another type. -/
theorem Err.frCell {sp : Nat → Addr} {w : World} {b i : Nat} {c : Array Value} {t : TypeId} {u v : Value} {k n : Nat} (h : Err sp w v k n) (hb : w.heap[b]? = some (.cells c t (0, 0))) (h1 : t ≠ 243) (h2 : t ≠ 90) : Err sp (w.setCell ⟨b, i, none⟩ u) v k n := by
  have hf : Fr (One b) w (w.setCell ⟨b, i, none⟩ u) := (Fr.refl _ _).setCell (fun _ => one_self b) _
  induction h using Err.ways with
  | sent k h3 h8 => exact .sent k h3 h8
  | short p n h => exact .short p n (hf.at h (fun e => by have e' : p = b := e; subst e'; rw [h] at hb; simp at hb; exact h1 hb.2.symm))
  | fault p t' v k n h _ ih => exact .fault p t' v k n (hf.at h (fun e => by have e' : p = b := e; subst e'; rw [h] at hb; simp at hb; exact h2 hb.2.symm)) ih

theorem res14 {tmps : Array Value} {w : World} {b : Nat} {v : Value} (h2 : tmps.getD 2 undef = .pointer (some ⟨b, 0, none⟩)) (hc : w.cell? ⟨b, 0, none⟩ = some v) : (results Tryz.f35 tmps).run Tryz.prog w = .ok v w := by
  have h2' : tmps[2]?.getD undef = .pointer (some ⟨b, 0, none⟩) := by simpa using h2
  simp [results, Tryz.results35, h2', asAddr, loadVar, isAgg, run_underlying Tryz.underlying55, go_sem, hc]


/-! A block of one cell that holds no number is no table's. -/
def NoInt (v : Value) : Prop := ∀ (q : IntKind) (z : Int), v ≠ .int q z
section
variable {w : World} {eb : Nat} {v0 u : Value} {t : TypeId}
theorem eb_cell (h : w.heap[eb]? = some (.cells #[v0] t (0, 0))) (hv : NoInt v0) {b i : Nat} {q : IntKind} {z : Int} (hc : w.cell? ⟨b, i, none⟩ = some (.int q z)) : b ≠ eb := by
  intro e
  subst e
  rw [cell_of h] at hc
  cases i with
  | zero => simp at hc; exact hv q z hc
  | succ i => simp at hc
theorem CodeAt.atEb {rb : Nat} {w2 : World} (f : Fr (fun k => k = rb ∨ k = eb) w w2) (h : w.heap[eb]? = some (.cells #[v0] t (0, 0))) (hv : NoInt v0) {cb co sb : Nat} {c : Gz.Code} (hC : CodeAt w cb co sb c) (h1 : cb ≠ rb) (h2 : sb ≠ rb) : CodeAt w2 cb co sb c := by
  have hcb : cb ≠ eb := eb_cell h hv hC.longest
  have hn : ∀ {b : Nat}, b ≠ rb → b ≠ eb → ¬ (b = rb ∨ b = eb) := fun a b e => e.elim a b
  refine ⟨Nat.lt_of_lt_of_le hC.lt f.size, fun i hi => (f.cell (p := ⟨cb, co + i, none⟩) hC.lt (hn h1 hcb)).trans (hC.count i hi), ?_, (f.cell (p := ⟨cb, co + 17, none⟩) hC.lt (hn h1 hcb)).trans hC.longest⟩
  obtain ⟨a, cap, ha, hs⟩ := hC.syms
  refine ⟨a, cap, (f.cell (p := ⟨cb, co + 16, none⟩) hC.lt (hn h1 hcb)).trans ha, fun j hj => ?_⟩
  obtain ⟨e1, e2, e3⟩ := hs j hj
  exact ⟨e1, Nat.lt_of_lt_of_le e2 f.size, (f.cell (p := ⟨sb, j, none⟩) e2 (hn h2 (eb_cell h hv e3))).trans e3⟩
theorem TableAt.atEb {rb : Nat} {w2 : World} (f : Fr (fun k => k = rb ∨ k = eb) w w2) (h : w.heap[eb]? = some (.cells #[v0] t (0, 0))) (ht : t = 55) (hv : NoInt v0) {K : List Nat} {tb s1 s2 : Nat} {x : Gz.Table} (hT : TableAt w K tb s1 s2 x) (hr : rb ∉ K) : TableAt w2 K tb s1 s2 x :=
  have hn : ∀ {k : Nat}, k ∈ K → k ≠ rb := fun hk e => hr (e ▸ hk)
  ⟨hT.syms.atEb f h hv (hn hT.k0) (hn hT.k1), hT.dists.atEb f h hv (hn hT.k0) (hn hT.k2), hT.g1, hT.g2, hT.k0, hT.k1, hT.k2, by
    have hb : ∀ {k : Nat} {cc : Array Value} {ty : TypeId}, k ∈ K → ty ≠ 55 → w.heap[k]? = some (.cells cc ty (0, 0)) → ¬ (k = rb ∨ k = eb) := fun hk hty hh e => by
      rcases e with e | e
      · exact hn hk e
      · rw [e, h] at hh; injection hh with hh; injection hh with _ hh; exact hty (hh ▸ ht)
    obtain ⟨⟨a, ha⟩, ⟨b, hb1⟩, c', hc⟩ := hT.tg
    exact ⟨⟨a, f.at ha (hb hT.k0 (by decide) ha)⟩, ⟨b, f.at hb1 (hb hT.k1 (by decide) hb1)⟩, c', f.at hc (hb hT.k2 (by decide) hc)⟩⟩
theorem Std.atEb {sp : Nat → Addr} {B rb db tsb mb : Nat} {K : List Nat} {d : List UInt8} {m : Gz.M} {c : Gz.Tc} {s s' : RS} {w2 : World} (hS : Std sp B rb db tsb mb K d m c w s) (f : Fr (fun k => k = rb ∨ k = eb) w w2) (hr : Rd w2 rb s') (h : w.heap[eb]? = some (.cells #[v0] 55 (0, 0))) (hv : NoInt v0) (hK : eb ∈ K) (hB : B ≤ eb)
    (e1 : s'.dv = s.dv) (e2 : s'.ov = s.ov) (e3 : s'.lim = s.lim) (e4 : s'.ts = s.ts) (e5 : s'.tb = s.tb) (e6 : s'.pl = s.pl) (e7 : s'.la = s.la) (e8 : s'.le = s.le) {q : Nat} (e9 : s'.pos = q) :
    Std sp B rb db tsb mb K d { m with pos := q } c w2 s' := by
  have hL := hS.at'.live
  have hrb : rb ≠ eb := fun e => hL.rbK (by rw [e]; simp [hK])
  have h13 := hL.b13
  have hbr := hL.brb
  have hn : ∀ {b : Nat}, b ≠ rb → b ≠ eb → ¬ (b = rb ∨ b = eb) := fun a b e => e.elim a b
  have hdat : Dat w2 db s'.dv d := by
    obtain ⟨a, cap, e, hc⟩ := hL.dat
    refine ⟨a, cap, e1.trans e, fun i hi => ?_⟩
    obtain ⟨e1, e2, e3⟩ := hc i hi
    exact ⟨e1, Nat.lt_of_lt_of_le e2 f.size, (f.cell (p := ⟨db, i, none⟩) e2 (hn (hL.ne hL.dbK) (eb_cell h hv e3))).trans e3⟩
  have hLive : Live sp B rb db (tsb :: mb :: K) d m.out w2 s' := by
    refine ⟨hL.env.fr f (fun k hk => hn (by omega) (by omega)), hr, hdat, ?_, e2 ▸ hL.apart, h13, Nat.le_trans hL.bsz f.size, hbr, hL.dbK, hL.rbK, fun k hk => Nat.lt_of_lt_of_le (hL.klt k hk) f.size, e3 ▸ hL.lim, e3 ▸ hL.len, hL.dlen⟩
    rw [e2]
    exact ownsRow_fr hL.row f (fun g hg => hn (hL.apart g hg).1 (fun e => (hL.apart g hg).2 (by rw [e]; simp [hK])))
  have htab : ∀ {v : Value} {o : Option Gz.Table}, TabAt w (tsb :: mb :: K) v o → TabAt w2 (tsb :: mb :: K) v o := fun {v o} ht => by
    cases o with
    | none => exact ht
    | some x => obtain ⟨tb, s1, s2, e, hT⟩ := ht; exact ⟨tb, s1, s2, e, hT.atEb f h rfl hv hL.rbK⟩
  have ht1 : tsb ≠ eb := fun e => by have h2 := hS.tabs.blk; unfold Tb at h2; rw [e, h] at h2; simp at h2
  have ht2 : mb ≠ eb := fun e => by obtain ⟨D, ⟨es, clock, hb, _⟩, _⟩ := hS.tabs.map; rw [e, h] at hb; simp at hb
  have hrK : rb ∉ K := fun hm => hL.rbK (by simp [hm])
  obtain ⟨D, hD, hH⟩ := hS.tabs.map
  exact ⟨⟨hLive, e9, e6.trans hS.at'.pl, e7.trans hS.at'.la, e8.trans hS.at'.le, by rw [e5]; exact htab hS.at'.tab⟩, ⟨hS.tabs.blk.fr f (hn (hS.tabs.ne hL.rd) ht1), hS.tabs.ok, D, ownsMap_fr hD f (hn (hS.tabs.nem hL.rd) ht2), hH.mono (fun tb l ⟨s1, s2, hT⟩ => ⟨s1, s2, hT.atEb f h rfl hv hrK⟩)⟩, e4.trans hS.ts, hS.b1, hS.b2, hS.n1, hS.n2⟩
end

theorem step_short {d : List UInt8} {lim : Nat} {m : Gz.M} {o : List UInt8} (h : Gz.step d lim m = .error (2, o)) : o = m.out := by
  have key : ∀ {α : Type} {r : Gz.Out α} {f : α → Nat → Gz.Step} {o : List UInt8}, (∀ a q o, f a q = .error (2, o) → o = m.out) → Gz.thenS r m.out f = .error (2, o) → o = m.out := by
    intro α r f o hf h
    cases r with
    | error k => injection h with h; injection h with _ h; exact h.symm
    | ok x => obtain ⟨a, q⟩ := x; exact hf a q o h
  unfold Gz.step at h
  split at h
  · refine key (fun a q o h => ?_) h
    unfold Gz.headS at h
    split at h
    · cases h
    split at h
    · cases h
    split at h
    · cases h
    · injection h with h; injection h with h; cases h
  · exact key (fun a q o h => by cases h) h
  · split at h
    · cases h
    · refine key (fun a q o h => ?_) h
      unfold Gz.byteS at h
      split at h
      · injection h with h; injection h with h; cases h
      · cases h
  · exact key (fun a q o h => by cases h) h
  · split at h
    · injection h with h; injection h with h; cases h
    · refine key (fun a q o h => ?_) h
      unfold Gz.obeyS at h
      split at h
      · split at h
        · injection h with h; injection h with h; cases h
        · cases h
      split at h
      · cases h
      split at h
      · refine key (fun a q o h => ?_) h
        unfold Gz.copyS at h
        split at h
        · injection h with h; injection h with h; cases h
        split at h
        · injection h with h; injection h with h; cases h
        · cases h
      · injection h with h; injection h with h; cases h
  · injection h with h; injection h with h; cases h

/-- How all the steps come to their end. -/
def RanAll (sp : Nat → Addr) (B rb db tsb mb : Nat) (K0 : List Nat) (d : List UInt8) (m : Gz.M) (c : Gz.Tc) (w : World) (s : RS) (e : Ending) (w' : World) : Prop :=
  Fr (Own B K0) w w' ∧ ∃ k o K' c' s' q, Gz.step d s.lim (Gz.final d s.lim m) = .error (k, o) ∧ Std sp B rb db tsb mb K' d { Gz.final d s.lim m with out := o, pos := q } c' w' s' ∧ Keeps s s' ∧ Turned K0 K' w w' m (Gz.final d s.lim m) c c' ∧
    ((k = 0 ∧ q = (Gz.final d s.lim m).pos ∧ e = .returned .nilIface) ∨ (2 ≤ k ∧ k ≤ 8 ∧ (k = 2 → q = (Gz.final d s.lim m).pos) ∧ ∃ v n, e = .returned v ∧ Err sp w' v k n))


section
variable {sp : Nat → Addr} {B rb db tsb mb : Nat} {K0 : List Nat} {d : List UInt8} {m : Gz.M} {c : Gz.Tc} {w w' : World} {s : RS}
/-- New blocks that nobody writes may be counted to those that stay. -/
theorem Std.wider (h : Std sp B rb db tsb mb K0 d m c w s) (f : Fr No w w') (L : List Nat) (hL : ∀ k, k ∈ L → w.heap.size ≤ k ∧ k < w'.heap.size) : Std sp B rb db tsb mb (L ++ K0) d m c w' s := by
  have hA := h.at'
  have hlt := h.tabs.lt
  have hltm := h.tabs.ltm
  have e1 : ∀ k, k ∈ L ++ (tsb :: mb :: K0) ↔ k ∈ tsb :: mb :: (L ++ K0) := fun k => by
    simp only [List.mem_append, List.mem_cons]
    constructor
    · rintro (h | h | h | h)
      · exact Or.inr (Or.inr (Or.inl h))
      · exact Or.inl h
      · exact Or.inr (Or.inl h)
      · exact Or.inr (Or.inr (Or.inr h))
    · rintro (h | h | h | h)
      · exact Or.inr (Or.inl h)
      · exact Or.inr (Or.inr (Or.inl h))
      · exact Or.inl h
      · exact Or.inr (Or.inr (Or.inr h))
  have hL1 := hA.live.grow (hA.live.of (f.of_no (T := One rb)) (hA.live.rd.fr f (no_no _)) rfl rfl rfl) rfl L hL
  refine ⟨(show At sp B rb db (L ++ (tsb :: mb :: K0)) d m w' s from ⟨hL1, hA.pos, hA.pl, hA.la, hA.le, (hA.tab.fr (B := B) f.of_no).sub (fun k hk => List.mem_append_right _ hk)⟩).same e1, (h.tabs.fr f (no_no _) (no_no _) (fun _ _ => no_no _)).sub (fun k hk => List.mem_append_right _ hk), h.ts, h.b1, h.b2, fun hm => ?_, fun hm => ?_⟩
  · rcases List.mem_append.1 hm with hm | hm
    · have := hL _ hm; omega
    · exact h.n1 hm
  · rcases List.mem_append.1 hm with hm | hm
    · have := hL _ hm; omega
    · exact h.n2 hm
end
def plOf (rb : Nat) (w : World) : Nat := match w.cell? ⟨rb, 6, none⟩ with
  | some v => (intOf v).toNat
  | none => 0
theorem Rd.plOf {w : World} {rb : Nat} {s : RS} (h : Rd w rb s) : plOf rb w = s.pl := by
  unfold Proofs.YtjjjlilflbddoaaGreatDoor.plOf; rw [h.c5]; simp [intOf]
/-- How many steps there are at most, off the reader's block. -/
def rankOf (d : List UInt8) (rb : Nat) (w : World) : Nat := 2 * (8 * d.length - posOf rb w) + (if plOf rb w = 2 ∧ leOf rb w = 0 then 1 else 0)
theorem rankOf_eq {sp : Nat → Addr} {B rb db : Nat} {K : List Nat} {d : List UInt8} {m : Gz.M} {w : World} {s : RS} (h : At sp B rb db K d m w s) : rankOf d rb w = Gz.rank d m := by
  unfold rankOf Gz.rank
  rw [h.live.rd.posOf, h.live.rd.leOf, h.live.rd.plOf, h.pos, h.le, h.pl]

set_option maxRecDepth 100000 in
set_option maxHeartbeats 1600000 in
theorem steps_any (sp : Nat → Addr) (B rb db tsb mb : Nat) (K0 : List Nat) (d : List UInt8) (m : Gz.M) (c : Gz.Tc) (w : World) (s : RS) (hS : Std sp B rb db tsb mb K0 d m c w s) (hso : Sound m) (hpos : m.pos ≤ 8 * d.length) (hask : c.asked + 8 * d.length < 2 ^ 62) :
    Calls Tryz.prog 35 #[.pointer (some ⟨rb, 0, none⟩)] w (RanAll sp B rb db tsb mb K0 d m c w s) := by
  have hmf : ∀ (fn : Fn) (first cap : Array Value) (w : World), (Instr.makeFunc fn first cap).run Tryz.prog w = .ok (.func fn first cap) w := fun _ _ _ _ => rfl
  have hne := neq_err
  have hnn := neq_nil
  go_enter_defers Tryz.func35, Tryz.ntmps35
  go_wp2_with fail
  have hL0 := hS.at'.live
  have hf0 : Fr No w ((w.alloc (.cells #[.pointer (some ⟨rb, 0, none⟩)] 50)).alloc (.cells #[.nilIface] 55)) := ((Fr.refl _ _).alloc _).alloc _
  have hx0 : ((w.alloc (.cells #[.pointer (some ⟨rb, 0, none⟩)] 50)).alloc (.cells #[.nilIface] 55)).heap[w.heap.size]? = some (.cells #[.pointer (some ⟨rb, 0, none⟩)] 50 (0, 0)) := alloc_old (alloc_at w _)
  have he0 : ((w.alloc (.cells #[.pointer (some ⟨rb, 0, none⟩)] 50)).alloc (.cells #[.nilIface] 55)).heap[w.heap.size + 1]? = some (.cells #[.nilIface] 55 (0, 0)) := by
    have := alloc_at (w.alloc (.cells #[.pointer (some ⟨rb, 0, none⟩)] 50)) (.cells #[.nilIface] 55)
    rwa [World.size_alloc] at this
  have hsz0 : ((w.alloc (.cells #[.pointer (some ⟨rb, 0, none⟩)] 50)).alloc (.cells #[.nilIface] 55)).heap.size = w.heap.size + 2 := by rw [World.size_alloc, World.size_alloc]
  have hS1 : Std sp B rb db tsb mb ([w.heap.size, w.heap.size + 1] ++ K0) d m c ((w.alloc (.cells #[.pointer (some ⟨rb, 0, none⟩)] 50)).alloc (.cells #[.nilIface] 55)) s := hS.wider hf0 [w.heap.size, w.heap.size + 1] (by
    intro k hk
    simp only [List.mem_cons, List.not_mem_nil, or_false] at hk
    rw [hsz0]
    rcases hk with rfl | rfl <;> omega)
  have hrlt := hL0.rd.lt
  have hBw := hL0.bsz
  have HX0 := hide hx0
  have HE0 := hide he0
  have HF0 := hide hf0
  have HS1 := hide hS1
  have HS0 := hide hS
  clear hx0 he0 hf0 hS1 hS
  go_loopw [] (fun wr => ∃ (m' : Gz.M) (K' : List Nat) (c' : Gz.Tc) (s' : RS), w.heap.size ∈ K' ∧ (w.heap.size + 1) ∈ K' ∧ Hid (Std sp B rb db tsb mb K' d m' c' wr s') ∧ LeadX d s.lim m m' ∧ Keeps s s' ∧ Turned K0 K' w wr m m' c c' ∧
      wr.heap[w.heap.size]? = some (.cells #[.pointer (some ⟨rb, 0, none⟩)] 50 (0, 0)) ∧ wr.heap[w.heap.size + 1]? = some (.cells #[.nilIface] 55 (0, 0)) ∧ Fr (Own B K0) w wr) (fun wr => rankOf d rb wr)
  case atStart => exact ⟨m, _, c, s, by simp, by simp, HS1.out, LeadX.refl hpos, Keeps.refl _, ⟨⟨fun _ h => List.mem_append_right _ h, fun k hk => by
      rcases List.mem_append.1 hk with hk | hk
      · simp only [List.mem_cons, List.not_mem_nil, or_false] at hk
        rw [hsz0]
        rcases hk with rfl | rfl <;> (right; omega)
      · exact Or.inl hk⟩, ⟨[], by rw [List.append_nil], rfl⟩, Nat.le_refl _⟩, HX0.out, HE0.out, HF0.out.of_no⟩
  case round =>
    obtain ⟨m', K', c', s', hk1, hk2, hSr, hld, hks, htu, hbx, hbe, hfr⟩ := hrel
    have HBX := hide hbx
    have HBE := hide hbe
    have cx : wr.cell? ⟨w.heap.size, 0, none⟩ = some (.pointer (some ⟨rb, 0, none⟩)) := by rw [cell_of hbx]; rfl
    have ce : wr.cell? ⟨w.heap.size + 1, 0, none⟩ = some .nilIface := by rw [cell_of hbe]; rfl
    have fe := frozen_of hbe 0
    have k5 : wr.cell? ⟨rb, 6, none⟩ = some (.int .i64 m'.pl) := by rw [hSr.out.at'.live.rd.c5, hSr.out.at'.pl]
    have hso' := hld.sound hso
    have HLD := hide hld
    have HKS := hide hks
    have HTU := hide htu
    have HSO := hide hso'
    have hlim : s'.lim = s.lim := hks.lim
    have HLIM := hide hlim
    clear hbx hbe hld hks htu hso' hlim
    by_cases hfin : m'.pl = 5
    · rw [hfin] at k5
      have k5 : wr.cell? ⟨rb, 6, none⟩ = some (.int .i64 5) := k5
      have hst : Gz.step d s.lim m' = .error (0, m'.out) := by unfold Gz.step; rw [hfin]; rfl
      have HFN : Hid (Gz.final d s.lim m = m') := by unfold Hid; rw [HLD.out.same]; exact Gz.final_bad hst
      have HST := hide hst
      clear hst hfin
      go_wp2
      refine leaves_cons (f := 53) (args := #[.pointer (some ⟨w.heap.size, 0, none⟩), .pointer (some ⟨w.heap.size + 1, 0, none⟩)]) (by simp) (by simp [go_sem]) ?_
      refine (catch_idle w.heap.size (w.heap.size + 1) _).mono ?_
      rintro e u' w'' ⟨rfl, rfl, rfl⟩
      have hself : wr.setCell ⟨w.heap.size + 1, 0, none⟩ .nilIface = wr := setCell_self HBE.out rfl
      refine ⟨_, res14 rfl (by rw [hself]; exact ce), ?_⟩
      rw [hself]
      refine ⟨hfr, 0, m'.out, K', c', s', m'.pos, by rw [HFN.out]; exact HST.out, ?_, HKS.out, by rw [HFN.out]; exact HTU.out, Or.inl ⟨rfl, by rw [HFN.out], rfl⟩⟩
      rw [HFN.out]
      exact hSr.out
    · have hpl4 : m'.pl ≤ 4 := by have := HSO.out.pl; omega
      have hb5 : ((m'.pl : Int) != 5) = true := by rw [bne_iff_ne]; omega
      have hrk : rankOf d rb wr = Gz.rank d m' := rankOf_eq hSr.out.at'
      have HRK := hide hrk
      have hasked : c'.asked < 2 ^ 62 := by have h1 := HTU.out.few; have h2 := HLD.out.upto; omega
      have HCALL := hide (goOn_any sp B rb db tsb mb K' d m' c' wr s' hSr.out HSO.out hpl4 HLD.out.upto hasked)
      clear hrk hasked hfin
      go_wp2_with fail
      refine HCALL.out.mono ?_
      rintro e w1 ⟨hf1, hX⟩
      have hbx1 := hf1.at HBX.out (fun e => e.2 hk1)
      have hbe1 := hf1.at HBE.out (fun e => e.2 hk2)
      have hfw : Fr (Own B K0) w w1 := hfr.trans (hf1.up (fun k hk => HTU.out.grow.1 k hk))
      have cx1 : w1.cell? ⟨w.heap.size, 0, none⟩ = some (.pointer (some ⟨rb, 0, none⟩)) := by rw [cell_of hbx1]; rfl
      have ce1 : w1.cell? ⟨w.heap.size + 1, 0, none⟩ = some .nilIface := by rw [cell_of hbe1]; rfl
      have fe1 := frozen_of hbe1 0
      have HBX1 := hide hbx1
      have HBE1 := hide hbe1
      clear hbx1 hbe1
      rcases hX with ⟨rfl, hg⟩ | hb
      · obtain ⟨m2, K2, c2, s2, h1, h2, h3, h4, h6⟩ := hg
        rw [HLIM.out] at h1
        have HS2 := hide h3
        have HL2 := hide (HLD.out.trans h1)
        have HK2 := hide (HKS.out.trans h4)
        have HT2 := hide (HTU.out.trans h6 hfr.size hf1.size)
        have hkk1 := h6.grow.1 _ hk1
        have hkk2 := h6.grow.1 _ hk2
        clear h1 h3 h4 h6
        go_wp2
        refine ⟨⟨m2, K2, c2, s2, hkk1, hkk2, HS2.out, HL2.out, HK2.out, HT2.out, HBX1.out, HBE1.out, hfw⟩, ?_⟩
        have r1 : rankOf d rb w1 = Gz.rank d m2 := rankOf_eq HS2.out.at'
        have r0 := HRK.out
        omega
      · obtain ⟨m1, k, o, K2, c2, s2, q, h1, h2, h3, h4, h5, h6, hbad⟩ := hb
        rw [HLIM.out] at h1 h2
        have HFN : Hid (Gz.final d s.lim m = m1) := by unfold Hid; rw [HLD.out.same, h1.same]; exact Gz.final_bad h2
        have HS2 := hide h3
        have HST := hide h2
        have HK2 := hide (HKS.out.trans h4)
        have HT2 := hide (HTU.out.trans h6 hfr.size hf1.size)
        have HBG := hide h5
        have HUP := hide h1.upto
        have hkk2 := h6.grow.1 _ hk2
        have hrd2 := h3.at'.live.rd
        have hdl := h3.at'.live.dlen
        have hebr : w.heap.size + 1 ≠ rb := by omega
        clear h1 h2 h3 h4 h5 h6
        rcases hbad with ⟨rfl, p', n, rfl, hp'⟩ | ⟨h3', h8', v, n, rfl, hv⟩
        · have hoo := step_short HST.out
          subst hoo
          have htop2 : capB s2.bg ≤ s2.top := by
            have h1 := HUP.out
            have h2 := HS2.out.at'.live.dat.top
            rw [HBG.out, capB_id (by omega)]
            omega
          go_wp2
          refine leaves_cons (f := 53) (args := #[.pointer (some ⟨w.heap.size, 0, none⟩), .pointer (some ⟨w.heap.size + 1, 0, none⟩)]) (by simp) (by simp [go_sem]) ?_
          refine (catch_short w.heap.size (w.heap.size + 1) rb p' s2 .nilIface _ HBX1.out HBE1.out hrd2 hebr htop2).mono ?_
          rintro e u' w2 ⟨rfl, rfl, hbe2, hr3, hf2⟩
          refine ⟨_, res14 rfl (by rw [cell_of hbe2]; rfl), ?_⟩
          have hsz := hfw.size
          have hf2' : Fr (Own B K0) w w2 := by
            refine ⟨hf2.os.trans hfw.os, hf2.tape.trans hfw.tape, hf2.output.trans hfw.output, Nat.le_trans hfw.size hf2.size, fun k hk hs => ?_⟩
            rw [hf2.block k (by omega) (fun e => ?_)]
            · exact hfw.block k hk hs
            · rcases e with e | e
              · subst e; exact hs ⟨hL0.brb, fun hm => hL0.rbK (by simp [hm])⟩
              · omega
          have hcap : capB s2.bg = m1.pos := by rw [HBG.out]; exact capB_id (by have := HUP.out; omega)
          have hS3 := HS2.out.atEb hf2 hr3 HBE1.out (fun _ _ h => by cases h) hkk2 (by omega) rfl rfl rfl rfl rfl rfl rfl rfl (q := m1.pos) hcap
          refine ⟨hf2', 2, m1.out, K2, c2, { s2 with pos := capB s2.bg }, m1.pos, by rw [HFN.out]; exact HST.out, by rw [HFN.out]; exact hS3, ⟨HK2.out.dv, HK2.out.ps, HK2.out.lim, HK2.out.ts⟩, ?_, Or.inr ⟨by omega, by omega, fun _ => by rw [HFN.out], _, 0, rfl, .short p' n (hf2.at hp' (fun e => ?_))⟩⟩
          · rw [HFN.out]
            exact ⟨⟨HT2.out.grow.1, fun k hk => (HT2.out.grow.2 k hk).imp id (fun h => ⟨h.1, Nat.lt_of_lt_of_le h.2 hf2.size⟩)⟩, HT2.out.asks, HT2.out.few⟩
          · rcases e with e | e
            · subst e; have h := hrd2.1; rw [hp'] at h; simp at h
            · subst e; have h := HBE1.out; rw [hp'] at h; simp at h
        · obtain ⟨ty, p', rfl⟩ := hv.iface
          go_wp2
          refine leaves_cons (f := 53) (args := #[.pointer (some ⟨w.heap.size, 0, none⟩), .pointer (some ⟨w.heap.size + 1, 0, none⟩)]) (by simp) (by simp [go_sem]) ?_
          refine (catch_idle w.heap.size (w.heap.size + 1) _).mono ?_
          rintro e u' w'' ⟨rfl, rfl, rfl⟩
          have hb2 := set_of HBE1.out 0 (.iface ty (.pointer (some p')))
          refine ⟨_, res14 rfl (by rw [cell_of hb2]; rfl), ?_⟩
          have hf2 : Fr (fun k => k = rb ∨ k = w.heap.size + 1) w1 (w1.setCell ⟨w.heap.size + 1, 0, none⟩ (.iface ty (.pointer (some p')))) := (Fr.refl _ _).setCell (fun _ => Or.inr rfl) _
          have hr3 : Rd (w1.setCell ⟨w.heap.size + 1, 0, none⟩ (.iface ty (.pointer (some p')))) rb s2 := ⟨by rw [set_other _ _ hebr.symm]; exact hrd2.1, hrd2.2⟩
          have hS3 := HS2.out.atEb hf2 hr3 HBE1.out (fun _ _ h => by cases h) hkk2 (by omega) rfl rfl rfl rfl rfl rfl rfl rfl (q := q) HS2.out.at'.pos
          refine ⟨hfw.setCell (fun e => by have e' : w.heap.size + 1 < w.heap.size := e; omega) _, k, o, K2, c2, s2, q, by rw [HFN.out]; exact HST.out, by rw [HFN.out]; exact hS3, HK2.out, ?_, Or.inr ⟨by omega, h8', fun h => by omega, _, n, rfl, hv.frCell HBE1.out (by decide) (by decide)⟩⟩
          rw [HFN.out]
          exact ⟨⟨HT2.out.grow.1, fun k hk => (HT2.out.grow.2 k hk).imp id (fun h => ⟨h.1, Nat.lt_of_lt_of_le h.2 hf2.size⟩)⟩, HT2.out.asks, HT2.out.few⟩
end Go.Proofs.YtjjjlilflbddoaaGreatDoor
