import Derived.Test.YtjjjlilflbddoaaDoorCodes
import Derived.Test.YtjjjlilflbddoaaDoorGoOn
namespace Go.Proofs.YtjjjlilflbddoaaDoor
open Go.RowKit

/-- The reader stands where the machine stands, its tables beside it. -/
structure Std (sp : Nat → Addr) (B rb db tsb mb : Nat) (K0 : List Nat) (d : List UInt8) (m : Gz.M) (c : Gz.Tc) (w : World) (s : RS) : Prop where
  at' : At sp B rb db (tsb :: mb :: K0) d m w s
  tabs : TabsAt w K0 tsb mb c
  ts : s.ts = .pointer (some ⟨tsb, 0, none⟩)
  b1 : B ≤ tsb
  b2 : B ≤ mb
  n1 : tsb ∉ K0
  n2 : mb ∉ K0

/-- Steps lead from m to m', maybe with tables asked for. -/
structure LeadX (d : List UInt8) (lim : Nat) (m m' : Gz.M) : Prop where
  same : Gz.final d lim m = Gz.final d lim m'
  upto : m'.pos ≤ 8 * d.length
  on : m.pos ≤ m'.pos
  less : Gz.rank d m' ≤ Gz.rank d m
  sound : Sound m → Sound m'
theorem Lead.x {d : List UInt8} {lim : Nat} {m m' : Gz.M} (h : Lead d lim m m') : LeadX d lim m m' := ⟨h.same, h.upto, h.on, h.less, h.sound⟩
theorem LeadX.refl {d : List UInt8} {lim : Nat} {m : Gz.M} (h : m.pos ≤ 8 * d.length) : LeadX d lim m m := ⟨rfl, h, Nat.le_refl _, Nat.le_refl _, id⟩
theorem LeadX.trans {d : List UInt8} {lim : Nat} {m m' m2 : Gz.M} (h : LeadX d lim m m') (h2 : LeadX d lim m' m2) : LeadX d lim m m2 := ⟨h.same.trans h2.same, h2.upto, Nat.le_trans h.on h2.on, Nat.le_trans h2.less h.less, fun s => h2.sound (h.sound s)⟩
theorem LeadX.one {d : List UInt8} {lim : Nat} {m m' : Gz.M} (h : m.pos ≤ 8 * d.length) (h2 : Gz.step d lim m = .ok m') : LeadX d lim m m' :=
  have e := Gz.step_less h2 h
  ⟨Gz.final_ok h2 h, e.2.1, e.1, Nat.le_of_lt e.2.2, fun s => (step_sound h2 s).1⟩

/-- How the tables have turned. -/
structure Turned (K0 K' : List Nat) (w w' : World) (m m' : Gz.M) (c c' : Gz.Tc) : Prop where
  grow : Grow K0 K' w w'
  asks : ∃ new, m'.asks = m.asks ++ new ∧ c' = c.asks new
  few : c'.asked + m.pos ≤ c.asked + m'.pos
theorem Turned.same {K0 : List Nat} {w w' : World} {m m' : Gz.M} {c : Gz.Tc} (h : m'.asks = m.asks) (hp : m.pos ≤ m'.pos) : Turned K0 K0 w w' m m' c c :=
  ⟨Grow.refl _ _ _, ⟨[], by rw [h, List.append_nil], rfl⟩, by omega⟩
theorem Turned.trans {K0 K1 K2 : List Nat} {w w1 w2 : World} {m m1 m2 : Gz.M} {c c1 c2 : Gz.Tc} (h : Turned K0 K1 w w1 m m1 c c1) (h2 : Turned K1 K2 w1 w2 m1 m2 c1 c2) (hs : w.heap.size ≤ w1.heap.size) (hs2 : w1.heap.size ≤ w2.heap.size) : Turned K0 K2 w w2 m m2 c c2 := by
  obtain ⟨a, ha, hc⟩ := h.asks
  obtain ⟨b, hb, hc2⟩ := h2.asks
  refine ⟨⟨fun k hk => h2.grow.1 k (h.grow.1 k hk), fun k hk => ?_⟩, ⟨a ++ b, by rw [hb, ha, List.append_assoc], by rw [hc2, hc, Gz.Tc.asks_app]⟩, ?_⟩
  · rcases h2.grow.2 k hk with hk | hk
    · rcases h.grow.2 k hk with hk | hk
      · exact Or.inl hk
      · exact Or.inr ⟨hk.1, by omega⟩
    · exact Or.inr ⟨by omega, hk.2⟩
  · have := h.few; have := h2.few; omega

/-- What was met. -/
def BadE (sp : Nat → Addr) (k : Nat) (e : Ending) (w' : World) : Prop := (k = 2 ∧ ShortP w' e) ∨ (3 ≤ k ∧ k ≤ 8 ∧ ∃ v n, e = .returned v ∧ Err sp w' v k n)

/-- A step that was not made. -/
def BadX (sp : Nat → Addr) (B rb db tsb mb : Nat) (K0 : List Nat) (d : List UInt8) (m : Gz.M) (c : Gz.Tc) (w : World) (s : RS) (e : Ending) (w' : World) : Prop :=
  ∃ m1 k o K' c' s' q, LeadX d s.lim m m1 ∧ Gz.step d s.lim m1 = .error (k, o) ∧ Std sp B rb db tsb mb K' d { m1 with out := o, pos := q } c' w' s' ∧ Keeps s s' ∧ s'.bg = m1.pos ∧ Turned K0 K' w w' m m1 c c' ∧ BadE sp k e w'
def GoodX (sp : Nat → Addr) (B rb db tsb mb : Nat) (K0 : List Nat) (d : List UInt8) (m : Gz.M) (c : Gz.Tc) (w : World) (s : RS) (w' : World) : Prop :=
  ∃ m' K' c' s', LeadX d s.lim m m' ∧ Gz.rank d m' < Gz.rank d m ∧ Std sp B rb db tsb mb K' d m' c' w' s' ∧ Keeps s s' ∧ Turned K0 K' w w' m m' c c'
/-- How a reading on comes to its end. -/
def RanX (sp : Nat → Addr) (B rb db tsb mb : Nat) (K0 : List Nat) (d : List UInt8) (m : Gz.M) (c : Gz.Tc) (w : World) (s : RS) (e : Ending) (w' : World) : Prop :=
  Fr (Own B K0) w w' ∧ ((e = .returned .nilIface ∧ GoodX sp B rb db tsb mb K0 d m c w s w') ∨ BadX sp B rb db tsb mb K0 d m c w s e w')
/-- .. one step. -/
def RanY (sp : Nat → Addr) (B rb db tsb mb : Nat) (K0 : List Nat) (d : List UInt8) (m : Gz.M) (c : Gz.Tc) (w : World) (s : RS) (e : Ending) (w' : World) : Prop :=
  Fr (Own B K0) w w' ∧ ((e = .returned .nilIface ∧ ∃ m' K' c' s', Gz.step d s.lim m = .ok m' ∧ Std sp B rb db tsb mb K' d m' c' w' s' ∧ Keeps s s' ∧ Turned K0 K' w w' m m' c c') ∨ BadX sp B rb db tsb mb K0 d m c w s e w')

section
variable {sp : Nat → Addr} {B rb db tsb mb : Nat} {K0 : List Nat} {d : List UInt8} {m : Gz.M} {c : Gz.Tc} {w : World} {s : RS} {e : Ending} {w' : World}
theorem Std.tabsFr (h : Std sp B rb db tsb mb K0 d m c w s) (f : Fr (Own B (tsb :: mb :: K0)) w w') : TabsAt w' K0 tsb mb c :=
  h.tabs.fr f (fun e => e.2 (by simp)) (fun e => e.2 (by simp)) (fun k hk e => e.2 (by simp [hk]))
theorem Std.upFr (f : Fr (Own B (tsb :: mb :: K0)) w w') : Fr (Own B K0) w w' := f.up (fun k hk => by simp [hk])
theorem RanL.x (h : RanL sp B rb db (tsb :: mb :: K0) d m w s e w') (hS : Std sp B rb db tsb mb K0 d m c w s) : RanX sp B rb db tsb mb K0 d m c w s e w' := by
  obtain ⟨f, ⟨rfl, m', s', hl, hr, ha, hk⟩ | ⟨m1, k, o, hl, hst, ⟨s', q, ha, hk, hb⟩, hbad⟩⟩ := h
  · exact ⟨Std.upFr f, Or.inl ⟨rfl, m', K0, c, s', hl.x, hr, ⟨ha, hS.tabsFr f, hk.ts.trans hS.ts, hS.b1, hS.b2, hS.n1, hS.n2⟩, hk, Turned.same hl.asks hl.on⟩⟩
  · exact ⟨Std.upFr f, Or.inr ⟨m1, k, o, K0, c, s', q, hl.x, hst, ⟨ha, hS.tabsFr f, hk.ts.trans hS.ts, hS.b1, hS.b2, hS.n1, hS.n2⟩, hk, hb, Turned.same hl.asks hl.on, hbad⟩⟩
theorem RanY.x (h : RanY sp B rb db tsb mb K0 d m c w s e w') (hp : m.pos ≤ 8 * d.length) : RanX sp B rb db tsb mb K0 d m c w s e w' := by
  obtain ⟨f, ⟨rfl, m', K', c', s', hst, hS, hk, ht⟩ | hb⟩ := h
  · exact ⟨f, Or.inl ⟨rfl, m', K', c', s', LeadX.one hp hst, (Gz.step_less hst hp).2.2, hS, hk, ht⟩⟩
  · exact ⟨f, Or.inr hb⟩
theorem BadX.after {m1 : Gz.M} {K1 : List Nat} {c1 : Gz.Tc} {w1 : World} {s1 : RS} (h : BadX sp B rb db tsb mb K1 d m1 c1 w1 s1 e w') (hl : LeadX d s.lim m m1) (hk : Keeps s s1) (ht : Turned K0 K1 w w1 m m1 c c1) (hs : w.heap.size ≤ w1.heap.size) (hs2 : w1.heap.size ≤ w'.heap.size) : BadX sp B rb db tsb mb K0 d m c w s e w' := by
  obtain ⟨m2, k, o, K', c', s', q, h1, h2, h3, h4, h5, h6, h7⟩ := h
  rw [hk.lim] at h1 h2
  exact ⟨m2, k, o, K', c', s', q, hl.trans h1, h2, h3, hk.trans h4, h5, ht.trans h6 hs hs2, h7⟩
theorem GoodX.after {m1 : Gz.M} {K1 : List Nat} {c1 : Gz.Tc} {w1 : World} {s1 : RS} (h : GoodX sp B rb db tsb mb K1 d m1 c1 w1 s1 w') (hl : LeadX d s.lim m m1) (hk : Keeps s s1) (ht : Turned K0 K1 w w1 m m1 c c1) (hs : w.heap.size ≤ w1.heap.size) (hs2 : w1.heap.size ≤ w'.heap.size) : GoodX sp B rb db tsb mb K0 d m c w s w' := by
  obtain ⟨m2, K', c', s', h1, h2, h3, h4, h6⟩ := h
  rw [hk.lim] at h1
  exact ⟨m2, K', c', s', hl.trans h1, Nat.lt_of_lt_of_le h2 hl.less, h3, hk.trans h4, ht.trans h6 hs hs2⟩
theorem RanX.after {m1 : Gz.M} {K1 : List Nat} {c1 : Gz.Tc} {w1 : World} {s1 : RS} (h : RanX sp B rb db tsb mb K1 d m1 c1 w1 s1 e w') (f : Fr (Own B K0) w w1) (hl : LeadX d s.lim m m1) (hk : Keeps s s1) (ht : Turned K0 K1 w w1 m m1 c c1) : RanX sp B rb db tsb mb K0 d m c w s e w' := by
  obtain ⟨f2, h⟩ := h
  refine ⟨f.trans (f2.up (fun k hk => ht.grow.1 k hk)), ?_⟩
  rcases h with ⟨he, h⟩ | h
  · exact Or.inl ⟨he, h.after hl hk ht f.size f2.size⟩
  · exact Or.inr (h.after hl hk ht f.size f2.size)
end

theorem head_x (sp : Nat → Addr) (B rb db tsb mb : Nat) (K0 : List Nat) (d : List UInt8) (m : Gz.M) (c : Gz.Tc) (w : World) (s : RS) (hS : Std sp B rb db tsb mb K0 d m c w s) (hpl : m.pl = 0) (hpos : m.pos ≤ 8 * d.length) :
    Calls Tryd.prog 101 #[.pointer (some ⟨rb, 0, none⟩)] w (RanX sp B rb db tsb mb K0 d m c w s) := by
  refine (head_any sp B rb db _ s d m w hS.at' hpl hpos).mono ?_
  rintro e w' ⟨f, hres⟩
  refine RanY.x ⟨Std.upFr f, ?_⟩ hpos
  cases hst : Gz.step d s.lim m with
  | ok m' =>
    rw [hst] at hres
    obtain ⟨rfl, L, s', hL, hA, hk⟩ := hres
    have hlt := hS.tabs.lt
    have hltm := hS.tabs.ltm
    have e1 : ∀ k, k ∈ L ++ (tsb :: mb :: K0) ↔ k ∈ tsb :: mb :: (L ++ K0) := fun k => by
      simp only [List.mem_append, List.mem_cons]
      constructor
      · rintro (h | h | h | h)
        · exact Or.inr (Or.inr (Or.inl h))
        · exact Or.inl h
        · exact Or.inr (Or.inl h)
        · exact Or.inr (Or.inr (Or.inr h))
      · rintro (h | h | h | h)
        · exact Or.inr (Or.inl h)
        · exact Or.inr (Or.inr (Or.inl h))
        · exact Or.inl h
        · exact Or.inr (Or.inr (Or.inr h))
    refine Or.inl ⟨rfl, m', L ++ K0, c, s', rfl, ⟨hA.same e1, (hS.tabsFr f).sub (fun k hk => List.mem_append_right _ hk), hk.ts.trans hS.ts, hS.b1, hS.b2, fun h => ?_, fun h => ?_⟩, hk, ⟨⟨fun k hk => List.mem_append_right _ hk, fun k hk => ?_⟩, ⟨[], ?_, rfl⟩, ?_⟩⟩
    · rcases List.mem_append.1 h with h | h
      · have := hL _ h; omega
      · exact hS.n1 h
    · rcases List.mem_append.1 h with h | h
      · have := hL _ h; omega
      · exact hS.n2 h
    · rcases List.mem_append.1 hk with h | h
      · exact Or.inr (hL _ h)
      · exact Or.inl h
    · rw [List.append_nil]; exact step_asks hst (by rw [hpl]; decide)
    · have := (Gz.step_less hst hpos).1; omega
  | error ko =>
    obtain ⟨k, o⟩ := ko
    rw [hst] at hres
    obtain ⟨⟨s', q, hA, hk, hb⟩, hbad⟩ := hres
    exact Or.inr ⟨m, k, o, K0, c, s', q, LeadX.refl hpos, hst, ⟨hA, hS.tabsFr f, hk.ts.trans hS.ts, hS.b1, hS.b2, hS.n1, hS.n2⟩, hk, hb, Turned.same rfl (Nat.le_refl _), hbad⟩

theorem sizes_x (sp : Nat → Addr) (B rb db tsb mb : Nat) (K0 : List Nat) (d : List UInt8) (m : Gz.M) (c : Gz.Tc) (w : World) (s : RS) (hS : Std sp B rb db tsb mb K0 d m c w s) (hpl : m.pl = 1) (hpos : m.pos ≤ 8 * d.length) :
    Calls Tryd.prog 102 #[.pointer (some ⟨rb, 0, none⟩)] w (RanY sp B rb db tsb mb K0 d m c w s) := by
  refine (sizes_any sp B rb db _ s d m w hS.at' hpl hpos).mono ?_
  rintro e w' ⟨f, hres⟩
  refine ⟨Std.upFr f, ?_⟩
  cases hst : Gz.step d s.lim m with
  | ok m' =>
    rw [hst] at hres
    obtain ⟨rfl, s', hA, hk⟩ := hres
    exact Or.inl ⟨rfl, m', K0, c, s', rfl, ⟨hA, hS.tabsFr f, hk.ts.trans hS.ts, hS.b1, hS.b2, hS.n1, hS.n2⟩, hk, Turned.same (step_asks hst (by rw [hpl]; decide)) (Gz.step_less hst hpos).1⟩
  | error ko =>
    obtain ⟨k, o⟩ := ko
    rw [hst] at hres
    obtain ⟨⟨s', q, hA, hk, hb⟩, hbad⟩ := hres
    exact Or.inr ⟨m, k, o, K0, c, s', q, LeadX.refl hpos, hst, ⟨hA, hS.tabsFr f, hk.ts.trans hS.ts, hS.b1, hS.b2, hS.n1, hS.n2⟩, hk, hb, Turned.same rfl (Nat.le_refl _), hbad⟩

theorem codes_x (sp : Nat → Addr) (B rb db tsb mb : Nat) (K0 : List Nat) (d : List UInt8) (m : Gz.M) (c : Gz.Tc) (w : World) (s : RS) (hS : Std sp B rb db tsb mb K0 d m c w s) (hpl : m.pl = 3) (hpos : m.pos ≤ 8 * d.length) (hask : c.asked < 2 ^ 62) :
    Calls Tryd.prog 104 #[.pointer (some ⟨rb, 0, none⟩)] w (RanY sp B rb db tsb mb K0 d m c w s) := by
  have hL := hS.at'.live
  have hpe := hS.at'.pos
  have hrK : rb ∉ K0 := fun h => hL.rbK (by simp [h])
  have hlt : ∀ k ∈ K0, k < w.heap.size := fun k hk => hL.klt k (by simp [hk])
  refine (codes_any sp rb db s d w hL.dlen (hL.ne hL.dbK) hL.r13 (hL.klt db hL.dbK) hL.env hL.rd hL.dat (by rw [hpe]; exact hpos) K0 tsb mb c hS.tabs hS.ts hlt hS.n1 hS.n2 hrK hask).mono ?_
  rintro e w' hres
  have hstep : Gz.step d s.lim m = Gz.thenS (Gz.keys d s.pos) m.out fun l q => .ok { m with pl := 4, tab := some (Gz.makeTable l), asks := m.asks ++ [l], pos := q } := by unfold Gz.step; rw [hpl, hpe]; rfl
  cases hky : Gz.keys d s.pos with
  | ok okk =>
    obtain ⟨l, q⟩ := okk
    rw [hky] at hres
    have hst : Gz.step d s.lim m = .ok { m with pl := 4, tab := some (Gz.makeTable l), asks := m.asks ++ [l], pos := q } := by rw [hstep, hky]; rfl
    obtain ⟨f, rfl, hkl, tb, s1, s2, K', hT, hTs, hG, hr⟩ := hres
    have hltt := hS.tabs.lt
    have hltm := hS.tabs.ltm
    have hrb := hL.brb
    have fO : Fr (Own B K0) w w' := f.mono (fun k _ e => by
      rcases e with rfl | rfl | rfl
      · exact ⟨hrb, hrK⟩
      · exact ⟨hS.b1, hS.n1⟩
      · exact ⟨hS.b2, hS.n2⟩)
    have hne1 := hS.tabs.ne hL.rd
    have hne2 := hS.tabs.nem hL.rd
    have hdb : db ∈ tsb :: mb :: K0 := hL.dbK
    have hovlt : ∀ k, s.ov.ownBlock = some k → k < w.heap.size := fun k hk => hL.ovlt hk
    have hrl := hL.rd.lt
    -- the data's block is none of those that the tables write
    have hdbn : ¬ (db = rb ∨ Duo tsb mb db) ∨ d.length = 0 := by
      by_cases h0 : d.length = 0
      · exact Or.inr h0
      · left
        obtain ⟨a, cap, hv, hc⟩ := hL.dat
        have hc0 := (hc 0 (by omega)).2.2
        rintro (h | h | h)
        · exact hL.ne hL.dbK h
        · rw [h] at hc0; rw [cell_of hS.tabs.blk] at hc0; simp at hc0
        · obtain ⟨D, ⟨es, clock, hb, _⟩, _⟩ := hS.tabs.map
          rw [h] at hc0
          simp [World.cell?, hb] at hc0
    have hdat : Dat w' db s.dv d := by
      rcases hdbn with h | h
      · exact hL.dat.fr f h
      · obtain ⟨a, cap, hv, hc⟩ := hL.dat
        exact ⟨a, cap, hv, fun i hi => by omega⟩
    have hovn : ∀ k, s.ov.ownBlock = some k → ¬ (k = rb ∨ Duo tsb mb k) := fun k hk e => by
      have h1 := hL.apart k hk
      rcases e with h | h | h
      · exact h1.1 h
      · exact h1.2 (by simp [h])
      · exact h1.2 (by simp [h])
    have hmem : ∀ k, k ∈ tsb :: mb :: K' → k ∈ tsb :: mb :: K0 ∨ (w.heap.size ≤ k ∧ k < w'.heap.size) := fun k hk => by
      simp only [List.mem_cons] at hk ⊢
      rcases hk with h | h | h
      · exact Or.inl (Or.inl h)
      · exact Or.inl (Or.inr (Or.inl h))
      · rcases hG.2 k h with h | h
        · exact Or.inl (Or.inr (Or.inr h))
        · exact Or.inr h
    have hLive : Live sp B rb db (tsb :: mb :: K') d m.out w' { s with pos := q, bg := s.pos, tb := .pointer (some ⟨tb, 0, none⟩), pl := 4 } := by
      have h13 := hL.b13
      refine ⟨hL.env.fr fO (fun k hk e => by have := e.1; omega), hr, hdat, ownsRow_fr hL.row f (fun g hg => hovn g hg), fun k hk => ⟨(hL.apart k hk).1, fun h => ?_⟩, h13, Nat.le_trans hL.bsz f.size, hrb, ?_, fun h => ?_, fun k hk => ?_, hL.lim, hL.len, hL.dlen⟩
      · rcases hmem k h with h | h
        · exact (hL.apart k hk).2 h
        · have := hovlt k hk; omega
      · simp only [List.mem_cons] at hdb ⊢
        rcases hdb with h | h | h
        · exact Or.inl h
        · exact Or.inr (Or.inl h)
        · exact Or.inr (Or.inr (hG.1 db h))
      · rcases hmem rb h with h | h
        · exact hL.rbK h
        · omega
      · rcases hmem k hk with h | h
        · exact Nat.lt_of_lt_of_le (hL.klt k h) f.size
        · exact h.2
    refine ⟨fO, Or.inl ⟨rfl, _, K', c.ask l, _, hst, ⟨⟨hLive, rfl, rfl, hS.at'.la, hS.at'.le, tb, s1, s2, rfl, hT.sub (fun k hk => by simp [hk])⟩, hTs, hS.ts, hS.b1, hS.b2, fun h => ?_, fun h => ?_⟩, ⟨rfl, rfl, rfl, rfl⟩, ⟨hG, ⟨[l], rfl, rfl⟩, ?_⟩⟩⟩
    · rcases hG.2 tsb h with h | h
      · exact hS.n1 h
      · omega
    · rcases hG.2 mb h with h | h
      · exact hS.n2 h
      · omega
    · have := (Gz.keys_ok hky).1
      show c.asked + 1 + m.pos ≤ c.asked + q
      omega
  | error k =>
    rw [hky] at hres
    have hst : Gz.step d s.lim m = .error (k, m.out) := by rw [hstep, hky]; rfl
    obtain ⟨f, ⟨q, hr⟩, hbad⟩ := hres
    have fO := hL.one f
    refine ⟨Std.upFr fO, Or.inr ⟨m, k, m.out, K0, c, _, q, LeadX.refl hpos, hst, ⟨hS.at'.to fO (hL.of f hr rfl rfl rfl) rfl rfl rfl rfl rfl, hS.tabsFr fO, hS.ts, hS.b1, hS.b2, hS.n1, hS.n2⟩, ⟨rfl, rfl, rfl, rfl⟩, hpe, Turned.same rfl (Nat.le_refl _), hbad⟩⟩
end Go.Proofs.YtjjjlilflbddoaaDoor
