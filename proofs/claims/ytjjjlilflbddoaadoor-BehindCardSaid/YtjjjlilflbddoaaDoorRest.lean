import Derived.Test.YtjjjlilflbddoaaDoorSteps
import Derived.Test.YtjjjlilflbddoaaDoorPass
import Derived.Test.YtjjjlilflbddoaaDoorApp
/-
  The reader at rest, between two pieces.
-/
namespace Go.Proofs.YtjjjlilflbddoaaDoor
open Go.RowKit

namespace Gz
theorem step_grow {d : List UInt8} {lim : Nat} {m : M} : (∀ m', step d lim m = .ok m' → ∃ x, m'.out = m.out ++ x) ∧ ∀ k o, step d lim m = .error (k, o) → ∃ x, o = m.out ++ x := by
  have key : ∀ {α : Type} {r : Out α} {f : α → Nat → Step}, (∀ a q, (∀ m', f a q = .ok m' → ∃ x, m'.out = m.out ++ x) ∧ ∀ k o, f a q = .error (k, o) → ∃ x, o = m.out ++ x) →
      (∀ m', thenS r m.out f = .ok m' → ∃ x, m'.out = m.out ++ x) ∧ ∀ k o, thenS r m.out f = .error (k, o) → ∃ x, o = m.out ++ x := by
    intro α r f hf
    cases r with
    | error k => exact ⟨fun m' h => (by cases h), fun k' o h => (by cases h; exact ⟨[], by rw [List.append_nil]⟩)⟩
    | ok x => obtain ⟨a, q⟩ := x; exact hf a q
  have bad : ∀ (j : Nat) (P : Prop), (∀ m', (Except.error (j, m.out) : Step) = .ok m' → P) ∧ ∀ k o, (Except.error (j, m.out) : Step) = .error (k, o) → ∃ x, o = m.out ++ x :=
    fun j P => ⟨fun m' h => (by cases h), fun k o h => by cases h; exact ⟨[], by rw [List.append_nil]⟩⟩
  have good : ∀ (m1 : M) (x : List UInt8), m1.out = m.out ++ x → (∀ m', (Except.ok m1 : Step) = .ok m' → ∃ x, m'.out = m.out ++ x) ∧ ∀ k o, (Except.ok m1 : Step) = .error (k, o) → ∃ x, o = m.out ++ x :=
    fun m1 x hx => ⟨fun m' h => by cases h; exact ⟨x, hx⟩, fun k o h => (by cases h)⟩
  have nil : ∀ (m1 : M), m1.out = m.out → (∀ m', (Except.ok m1 : Step) = .ok m' → ∃ x, m'.out = m.out ++ x) ∧ ∀ k o, (Except.ok m1 : Step) = .error (k, o) → ∃ x, o = m.out ++ x :=
    fun m1 hx => good m1 [] (by rw [List.append_nil]; exact hx)
  have badx : ∀ (j : Nat), (∀ m', (Except.error (j, m.out) : Step) = .ok m' → ∃ x, m'.out = m.out ++ x) ∧ ∀ k o, (Except.error (j, m.out) : Step) = .error (k, o) → ∃ x, o = m.out ++ x :=
    fun j => ⟨fun m' h => (by cases h), (bad j True).2⟩
  unfold step
  split
  · refine key (fun a q => ?_)
    unfold headS
    split
    · exact nil _ rfl
    split
    · exact nil _ rfl
    split
    · exact nil _ rfl
    · exact badx 3
  · exact key (fun a q => nil _ rfl)
  · split
    · exact nil _ rfl
    · refine key (fun a q => ?_)
      unfold byteS
      split
      · exact badx 8
      · exact good _ [UInt8.ofNat a] rfl
  · exact key (fun a q => nil _ rfl)
  · split
    · exact badx 99
    · refine key (fun a q => ?_)
      unfold obeyS
      split
      · split
        · exact badx 8
        · exact good _ [UInt8.ofNat a] rfl
      split
      · exact nil _ rfl
      split
      · refine key (fun b q2 => ?_)
        unfold copyS
        split
        · exact badx 7
        obtain ⟨x, hx⟩ := copyO_grow lim b.2 (lenFrom.getD (a - 257) 0 + b.1) m.out
        split
        · exact ⟨fun m' h => (by cases h), fun k o h => by cases h; exact ⟨x, hx⟩⟩
        · exact good _ x hx
      · exact badx 6
  · exact badx 0
theorem final_grow (d : List UInt8) (lim : Nat) : ∀ m, m.pos ≤ 8 * d.length → ∃ x, (final d lim m).out = m.out ++ x :=
  final_ind (fun m e _ h => by rw [final_bad h]; exact ⟨[], by rw [List.append_nil]⟩) (fun m m' hp h ih => by
    rw [final_ok h hp]
    obtain ⟨x, hx⟩ := ih
    obtain ⟨y, hy⟩ := step_grow.1 m' h
    exact ⟨y ++ x, by rw [hx, hy, List.append_assoc]⟩)
end Gz

structure Rst (sp : Nat → Addr) (B rb tsb mb : Nat) (K1 : List Nat) (d : List UInt8) (m : Gz.M) (c : Gz.Tc) (w : World) (s : RS) : Prop where
  env : Env sp w
  rd : Rd w rb s
  drow : w.ownsRow B 5 1 s.dv d.length (d.map bv)
  dap : ∀ g, s.dv.ownBlock = some g → g ∉ K1 ∧ s.ov.ownBlock ≠ some g
  row : w.ownsRow B 5 1 s.ov m.out.length (m.out.map bv)
  oap : ∀ k, s.ov.ownBlock = some k → k ∉ K1
  b13 : 16 ≤ B
  bsz : B ≤ w.heap.size
  brb : B ≤ rb
  rbK : rb ∉ K1
  klt : ∀ k ∈ K1, k < w.heap.size
  lim : s.lim ≤ 6000
  len : m.out.length ≤ s.lim
  tot : s.ps + d.length ≤ 4000
  tabs : TabsAt w K1 tsb mb c
  ts : s.ts = .pointer (some ⟨tsb, 0, none⟩)
  b1 : B ≤ tsb
  b2 : B ≤ mb
  n1 : tsb ∉ K1
  n2 : mb ∉ K1
  pos : s.pos = m.pos
  pl : s.pl = m.pl
  la : s.la = m.la
  le : s.le = m.le
  tab : TabAt w K1 s.tb m.tab
  sound : Sound m

theorem row_block {w : World} {B n : Nat} {v : Value} {xs : List Value} (h : w.ownsRow B 5 1 v n xs) {g : Nat} (hg : v.ownBlock = some g) : B ≤ g ∧ ∃ cur, w.heap[g]? = some (.cells cur 5 (0, 0)) := by
  rcases h.2 with ⟨e, _⟩ | ⟨g', cap, cur, e, hb, hh, _⟩
  · rw [e] at hg; cases hg
  · rw [e] at hg
    have : g' = g := by simpa [Value.ownBlock] using hg
    subst this
    exact ⟨hb, cur, hh⟩

section
variable {sp : Nat → Addr} {B rb tsb mb : Nat} {K1 : List Nat} {d : List UInt8} {m : Gz.M} {c : Gz.Tc} {w w' : World} {s : RS}
theorem bytes_ne (hr : Rd w rb s) (hT : TabsAt w K1 tsb mb c) {g : Nat} (h : ∃ cur, w.heap[g]? = some (.cells cur 5 (0, 0))) : g ≠ rb ∧ g ≠ tsb ∧ g ≠ mb := by
  obtain ⟨cur, h⟩ := h
  refine ⟨fun e => ?_, fun e => ?_, fun e => ?_⟩
  · have h2 := hr.1; rw [← e, h] at h2; simp at h2
  · have h2 := hT.blk; unfold Tb at h2; rw [← e, h] at h2; simp at h2
  · obtain ⟨D, ⟨es, clock, hb, _⟩, _⟩ := hT.map; rw [← e, h] at hb; simp at hb

theorem Rst.std (h : Rst sp B rb tsb mb K1 d m c w s) : ∃ db K0, Std sp B rb db tsb mb K0 d m c w s ∧ (∀ k, k ∈ K0 ↔ (k ∈ K1 ∨ s.dv.ownBlock = some k)) ∧ m.pos ≤ 8 * d.length := by
  have hov : ∀ k, s.ov.ownBlock = some k → k ≠ rb ∧ k ≠ tsb ∧ k ≠ mb ∧ k ∉ K1 := fun k hk => by
    have := bytes_ne h.rd h.tabs (row_block h.row hk).2
    exact ⟨this.1, this.2.1, this.2.2, h.oap k hk⟩
  have ht1 := h.tabs.ne h.rd
  have ht2 := h.tabs.nem h.rd
  have htl := h.tabs.lt
  have htm := h.tabs.ltm
  have hdl : d.length ≤ 4000 := by have := h.tot; omega
  have htop : s.top = 8 * d.length := by
    obtain ⟨ao, cap, e⟩ := ownsRow_form h.drow
    unfold RS.top
    rw [e]
  have hmp : m.pos ≤ 8 * d.length := by have := h.rd.2; rw [← h.pos]; omega
  rcases h.drow.2 with ⟨e, h0⟩ | ⟨g, cap, cur, e, hbg, hh, hnc, hcm, hcs, htk⟩
  · have hd0 : d = [] := List.length_eq_zero_iff.1 h0
    refine ⟨tsb, K1, ⟨⟨⟨h.env, h.rd, ⟨none, 0, by rw [e, h0], fun i hi => by omega⟩, h.row, fun k hk => ⟨(hov k hk).1, ?_⟩, h.b13, h.bsz, h.brb, by simp, ?_, fun k hk => ?_, h.lim, h.len, hdl⟩, h.pos, h.pl, h.la, h.le, h.tab.sub (fun k hk => by simp [hk])⟩, h.tabs, h.ts, h.b1, h.b2, h.n1, h.n2⟩, fun k => ⟨Or.inl, fun hk => ?_⟩, hmp⟩
    · simp only [List.mem_cons, not_or]
      exact (hov k hk).2
    · simp only [List.mem_cons, not_or]
      exact ⟨fun e => ht1 e.symm, fun e => ht2 e.symm, h.rbK⟩
    · simp only [List.mem_cons] at hk
      rcases hk with rfl | rfl | hk
      · exact htl
      · exact htm
      · exact h.klt k hk
    · rcases hk with hk | hk
      · exact hk
      · rw [e] at hk; cases hk
  · have hgo : s.dv.ownBlock = some g := by rw [e]; rfl
    have hg := bytes_ne h.rd h.tabs ⟨cur, hh⟩
    have hgd := h.dap g hgo
    have hdat : Dat w g s.dv d := ⟨some ⟨g, 0, none⟩, cap, e, fun i hi => ⟨rfl, lt_of hh, by
      rw [cell_of hh]
      have e1 : (cur.toList.take (d.length * 1))[i]? = (d.map bv)[i]? := by rw [htk]
      rw [List.getElem?_take_of_lt (by omega)] at e1
      rw [← Array.getElem?_toList, e1]
      simp [bv, List.getD, hi]⟩⟩
    refine ⟨g, g :: K1, ⟨⟨⟨h.env, h.rd, hdat, h.row, fun k hk => ⟨(hov k hk).1, ?_⟩, h.b13, h.bsz, h.brb, by simp, ?_, fun k hk => ?_, h.lim, h.len, hdl⟩, h.pos, h.pl, h.la, h.le, h.tab.sub (fun k hk => by simp [hk])⟩, h.tabs.sub (fun k hk => by simp [hk]), h.ts, h.b1, h.b2, ?_, ?_⟩, fun k => ?_, hmp⟩
    · simp only [List.mem_cons, not_or]
      exact ⟨(hov k hk).2.1, (hov k hk).2.2.1, fun e => hgd.2 (e ▸ hk), (hov k hk).2.2.2⟩
    · simp only [List.mem_cons, not_or]
      exact ⟨fun e => ht1 e.symm, fun e => ht2 e.symm, fun e => hg.1 e.symm, h.rbK⟩
    · simp only [List.mem_cons] at hk
      rcases hk with rfl | rfl | rfl | hk
      · exact htl
      · exact htm
      · exact lt_of hh
      · exact h.klt k hk
    · simp only [List.mem_cons, not_or]
      exact ⟨fun e => hg.2.1 e.symm, h.n1⟩
    · simp only [List.mem_cons, not_or]
      exact ⟨fun e => hg.2.2 e.symm, h.n2⟩
    · rw [hgo]
      simp only [List.mem_cons, Option.some.injEq]
      exact ⟨fun h => h.elim (fun h => Or.inr h.symm) Or.inl, fun h => h.elim Or.inr (fun h => Or.inl h.symm)⟩

theorem TableAt.cut {K K' : List Nat} {tb s1 s2 : Nat} {t : Gz.Table} (hT : TableAt w K tb s1 s2 t) (hK : ∀ k, k ∈ K → (∃ cc ty, w.heap[k]? = some (.cells cc ty (0, 0)) ∧ (ty = 209 ∨ ty = 3)) → k ∈ K') : TableAt w K' tb s1 s2 t := by
  obtain ⟨⟨a, ha⟩, ⟨b, hb⟩, c', hc⟩ := hT.tg
  exact ⟨hT.syms, hT.dists, hT.g1, hT.g2, hK _ hT.k0 ⟨_, _, ha, Or.inl rfl⟩, hK _ hT.k1 ⟨_, _, hb, Or.inr rfl⟩, hK _ hT.k2 ⟨_, _, hc, Or.inr rfl⟩, hT.tg⟩

/-- Behind the steps. -/
theorem Std.rst {db : Nat} {K' : List Nat} (h : Std sp B rb db tsb mb K' d m c w s) (hrow : w.ownsRow B 5 1 s.dv d.length (d.map bv)) (hg : ∀ g, s.dv.ownBlock = some g → g ∈ K') (hso : Sound m) (htot : s.ps + d.length ≤ 4000) :
    Rst sp B rb tsb mb (K'.filter fun k => decide (s.dv.ownBlock ≠ some k)) d m c w s := by
  have hL := h.at'.live
  have hmem : ∀ k, k ∈ (K'.filter fun k => decide (s.dv.ownBlock ≠ some k)) ↔ (k ∈ K' ∧ s.dv.ownBlock ≠ some k) := fun k => by simp [List.mem_filter]
  have hcut : ∀ k, k ∈ tsb :: mb :: K' → (∃ cc ty, w.heap[k]? = some (.cells cc ty (0, 0)) ∧ (ty = 209 ∨ ty = 3)) → k ∈ (K'.filter fun k => decide (s.dv.ownBlock ≠ some k)) := fun k hk ⟨cc, ty, hh, hty⟩ => by
    rw [hmem]
    have hty5 : ty ≠ 5 := fun e => by rw [e] at hty; revert hty; decide
    simp only [List.mem_cons] at hk
    rcases hk with rfl | rfl | hk
    · have h2 := h.tabs.blk
      unfold Tb at h2
      rw [hh] at h2
      injection h2 with h2
      injection h2 with _ h2
      rw [h2] at hty
      exact absurd hty (by decide)
    · obtain ⟨D, ⟨es, clock, hb, _⟩, _⟩ := h.tabs.map
      rw [hh] at hb; simp at hb
    · refine ⟨hk, fun e => ?_⟩
      obtain ⟨_, cur, h2⟩ := row_block hrow e
      rw [hh] at h2
      injection h2 with h2
      injection h2 with _ h2
      exact hty5 h2
  obtain ⟨D, hD, hH⟩ := h.tabs.map
  refine ⟨hL.env, hL.rd, hrow, fun g hgd => ⟨fun hm => ((hmem g).1 hm).2 hgd, fun e => (hL.apart g e).2 (by simp [hg g hgd])⟩, hL.row, fun k hk hm => (hL.apart k hk).2 (by simp [((hmem k).1 hm).1]), hL.b13, hL.bsz, hL.brb, fun hm => hL.rbK (by simp [((hmem rb).1 hm).1]), fun k hk => hL.klt k (by simp [((hmem k).1 hk).1]), hL.lim, hL.len, htot,
    ⟨h.tabs.blk, h.tabs.ok, D, hD, hH.mono (fun tb l ⟨s1, s2, hT⟩ => ⟨s1, s2, hT.cut (fun k hk ht => hcut k (by simp [hk]) ht)⟩)⟩, h.ts, h.b1, h.b2, fun hm => h.n1 ((hmem _).1 hm).1, fun hm => h.n2 ((hmem _).1 hm).1, h.at'.pos, h.at'.pl, h.at'.la, h.at'.le, ?_, hso⟩
  have ht := h.at'.tab
  cases hm : m.tab with
  | none => rw [hm] at ht; exact ht
  | some x =>
    rw [hm] at ht
    obtain ⟨tb, s1, s2, e, hT⟩ := ht
    exact ⟨tb, s1, s2, e, hT.cut hcut⟩

/-- Bytes that were taken whole are let go. -/
theorem Rst.pass (h : Rst sp B rb tsb mb K1 d m c w s) :
    Calls Tryd.prog 52 #[.pointer (some ⟨rb, 0, none⟩)] w fun e w' => e = .returned (.tuple #[]) ∧ ∃ s', Rst sp B rb tsb mb K1 (d.drop (m.pos / 8)) { m with pos := m.pos % 8 } c w' s' ∧ s'.ps = s.ps + m.pos / 8 ∧ s'.lim = s.lim ∧ s'.ov = s.ov ∧ Fr (fun k => k = rb ∨ s.dv.ownBlock = some k) w w' := by
  have htot := h.tot
  have htop : s.top = 8 * d.length := by
    obtain ⟨ao, cap, e⟩ := ownsRow_form h.drow
    unfold RS.top
    rw [e]
  have hp : s.pos ≤ 8 * d.length := by have := h.rd.2; omega
  have hb : ∀ {g : Nat}, s.dv.ownBlock = some g → B ≤ g ∧ g ≠ rb ∧ g ≠ tsb ∧ g ≠ mb := fun hg => by
    have h1 := row_block h.drow hg
    have h2 := bytes_ne h.rd h.tabs h1.2
    exact ⟨h1.1, h2⟩
  refine (pass_any B rb s d w h.rd h.drow (fun e => (hb e).2.1 rfl) hp (by omega) (by omega)).mono ?_
  rintro e w' ⟨rfl, v', hr, hrow, hob, f⟩
  rw [h.pos] at hr hrow
  have h13 := h.b13
  have hbr := h.brb
  have hn : ∀ {k : Nat}, k ≠ rb → s.dv.ownBlock ≠ some k → ¬ (k = rb ∨ s.dv.ownBlock = some k) := fun a b e => e.elim a b
  have hKn : ∀ k ∈ K1, ¬ (k = rb ∨ s.dv.ownBlock = some k) := fun k hk => hn (fun e => h.rbK (e ▸ hk)) (fun e => (h.dap k e).1 hk)
  have hdl : (d.drop (m.pos / 8)).length = d.length - m.pos / 8 := by simp
  have hmp : m.pos = s.pos := h.pos.symm
  refine ⟨rfl, _, ⟨h.env.fr f (fun k hk => hn (by omega) (fun e => by have := (hb e).1; omega)), hr, hrow, fun g hg => h.dap g (hob g hg), ownsRow_fr h.row f (fun g hg => hn (bytes_ne h.rd h.tabs (row_block h.row hg).2).1 (fun e => (h.dap g e).2 hg)), h.oap, h13, Nat.le_trans h.bsz f.size, hbr, h.rbK, fun k hk => Nat.lt_of_lt_of_le (h.klt k hk) f.size, h.lim, h.len, ?_,
    h.tabs.fr f (hn (h.tabs.ne h.rd) (fun e => (hb e).2.2.1 rfl)) (hn (h.tabs.nem h.rd) (fun e => (hb e).2.2.2 rfl)) hKn, h.ts, h.b1, h.b2, h.n1, h.n2, rfl, h.pl, h.la, h.le, ?_, ⟨h.sound.pl, h.sound.tab, h.sound.le⟩⟩, rfl, rfl, rfl, f⟩
  · show s.ps + m.pos / 8 + (d.drop (m.pos / 8)).length ≤ 4000
    omega
  · have ht := h.tab
    show TabAt w' K1 s.tb m.tab
    cases hm : m.tab with
    | none => rw [hm] at ht; exact ht
    | some x =>
      rw [hm] at ht
      obtain ⟨tb, s1, s2, e, hT⟩ := ht
      exact ⟨tb, s1, s2, e, hT.frS f hKn⟩
end
section
variable {sp : Nat → Addr} {B rb tsb mb : Nat} {K1 : List Nat} {d : List UInt8} {m : Gz.M} {c : Gz.Tc} {w w' : World} {s : RS}
theorem Rst.still (h : Rst sp B rb tsb mb K1 d m c w s) (f : Fr No w w') : Rst sp B rb tsb mb K1 d m c w' s := by
  refine ⟨h.env.fr f (fun _ _ => no_no _), h.rd.fr f (no_no _), ownsRow_fr h.drow f (fun _ _ => no_no _), h.dap, ownsRow_fr h.row f (fun _ _ => no_no _), h.oap, h.b13, Nat.le_trans h.bsz f.size, h.brb, h.rbK, fun k hk => Nat.lt_of_lt_of_le (h.klt k hk) f.size, h.lim, h.len, h.tot, h.tabs.fr f (no_no _) (no_no _) (fun _ _ => no_no _), h.ts, h.b1, h.b2, h.n1, h.n2, h.pos, h.pl, h.la, h.le, ?_, h.sound⟩
  have ht := h.tab
  cases hm : m.tab with
  | none => rw [hm] at ht; exact ht
  | some x =>
    rw [hm] at ht
    obtain ⟨tb, s1, s2, e, hT⟩ := ht
    exact ⟨tb, s1, s2, e, hT.frS f (fun _ _ => no_no _)⟩

/-- A piece is put behind the data. -/
theorem Rst.app {p : List UInt8} {v' : Value} {w1 : World} (h : Rst sp B rb tsb mb K1 d m c w s) (f : Fr (fun k => s.dv.ownBlock = some k) w w1) (hrow : w1.ownsRow B 5 1 v' (d ++ p).length ((d ++ p).map bv)) (hloc : ∀ g, v'.ownBlock = some g → s.dv.ownBlock = some g ∨ w.heap.size ≤ g) (htot : s.ps + (d ++ p).length ≤ 4000) :
    Rst sp B rb tsb mb K1 (d ++ p) m c (w1.setCell ⟨rb, 0, none⟩ v') { s with dv := v' } ∧ Fr (Own B K1) w (w1.setCell ⟨rb, 0, none⟩ v') := by
  have hb : ∀ {g : Nat}, s.dv.ownBlock = some g → B ≤ g ∧ g ≠ rb ∧ g ≠ tsb ∧ g ≠ mb := fun hg => by
    have h1 := row_block h.drow hg
    have h2 := bytes_ne h.rd h.tabs h1.2
    exact ⟨h1.1, h2⟩
  have h13 := h.b13
  have hbr := h.brb
  have hrl := h.rd.lt
  have f1 : Fr (fun k => k = rb ∨ s.dv.ownBlock = some k) w w1 := f.mono (fun k _ e => Or.inr e)
  have f2 : Fr (fun k => k = rb ∨ s.dv.ownBlock = some k) w (w1.setCell ⟨rb, 0, none⟩ v') := f1.setCell (p := ⟨rb, 0, none⟩) (fun _ => Or.inl rfl) _
  have hn : ∀ {k : Nat}, k ≠ rb → s.dv.ownBlock ≠ some k → ¬ (k = rb ∨ s.dv.ownBlock = some k) := fun a b e => e.elim a b
  have hKn : ∀ k ∈ K1, ¬ (k = rb ∨ s.dv.ownBlock = some k) := fun k hk => hn (fun e => h.rbK (e ▸ hk)) (fun e => (h.dap k e).1 hk)
  have hov : ∀ g, s.ov.ownBlock = some g → ¬ (g = rb ∨ s.dv.ownBlock = some g) := fun g hg => hn (bytes_ne h.rd h.tabs (row_block h.row hg).2).1 (fun e => (h.dap g e).2 hg)
  have h1 := f.at h.rd.1 (fun e => (hb e).2.1 rfl)
  have hlen : d.length ≤ (d ++ p).length := by simp
  have htop : s.top = 8 * d.length := by
    obtain ⟨ao, cap, e⟩ := ownsRow_form h.drow
    unfold RS.top
    rw [e]
  obtain ⟨ao, cap, ev⟩ := ownsRow_form hrow
  have hvr : v'.ownBlock ≠ some rb := fun e => by
    rcases hloc rb e with h | h
    · exact (hb h).2.1 rfl
    · omega
  refine ⟨⟨h.env.fr f2 (fun k hk => hn (by omega) (fun e => by have := (hb e).1; omega)), ⟨by rw [set_of h1]; rfl, ?_⟩, ownsRow_fr hrow (S := One rb) ((Fr.refl _ _).setCell (fun _ => one_self rb) _) (fun g hg => one_ne (fun e => hvr (e ▸ hg))), fun g hg => ⟨fun hm => ?_, fun e => ?_⟩, ownsRow_fr h.row f2 hov, h.oap, h13, Nat.le_trans h.bsz f2.size, hbr, h.rbK, fun k hk => Nat.lt_of_lt_of_le (h.klt k hk) f2.size, h.lim, h.len, htot,
    h.tabs.fr f2 (hn (h.tabs.ne h.rd) (fun e => (hb e).2.2.1 rfl)) (hn (h.tabs.nem h.rd) (fun e => (hb e).2.2.2 rfl)) hKn, h.ts, h.b1, h.b2, h.n1, h.n2, h.pos, h.pl, h.la, h.le, ?_, h.sound⟩, f2.mono (fun k _ e => ?_)⟩
  · have := h.rd.2
    show s.pos ≤ RS.top _
    unfold RS.top
    simp only [ev]
    omega
  · rcases hloc g hg with hg | hg
    · exact (h.dap g hg).1 hm
    · have := h.klt g hm; omega
  · rcases hloc g hg with hg | hg
    · exact (h.dap g hg).2 e
    · obtain ⟨_, cur, hh⟩ := row_block h.row e
      have := lt_of hh
      omega
  · have ht := h.tab
    show TabAt _ K1 s.tb m.tab
    cases hm : m.tab with
    | none => rw [hm] at ht; exact ht
    | some x =>
      rw [hm] at ht
      obtain ⟨tb, s1, s2, e, hT⟩ := ht
      exact ⟨tb, s1, s2, e, hT.frS f2 hKn⟩
  · rcases e with rfl | e
    · exact ⟨hbr, h.rbK⟩
    · exact ⟨(hb e).1, (h.dap k e).1⟩
end
end Go.Proofs.YtjjjlilflbddoaaDoor
