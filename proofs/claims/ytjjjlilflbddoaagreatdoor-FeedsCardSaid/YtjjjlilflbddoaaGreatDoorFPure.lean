import Derived.Test.YtjjjlilflbddoaaGreatDoorFDec
import Derived.Test.YtjjjlilflbddoaaGreatDoorRRAgree
/-
  The document's reading and the machine of steps: what is put out, what was met, which lengths were asked for.
-/
namespace Go.Proofs.YtjjjlilflbddoaaGreatDoor

/-- The lengths that the document keeps, as the program keeps them. -/
def widen (k : List Nat) : List Nat := Gz.wide (k.take 286) 288 ++ Gz.wide (k.drop 286) 32

theorem wide_len (l : List Nat) (n : Nat) (h : l.length ≤ n) : (Gz.wide l n).length = n := by unfold Gz.wide; simp; omega
theorem wide_wide (l : List Nat) (m n : Nat) (h : l.length ≤ m) (h2 : m ≤ n) : Gz.wide (Gz.wide l m) n = Gz.wide l n := by
  have e := wide_len l m h
  show Gz.wide l m ++ List.replicate (n - (Gz.wide l m).length) 0 = _
  rw [e]
  unfold Gz.wide
  rw [List.append_assoc, List.replicate_append_replicate, show m - l.length + (n - m) = n - l.length by omega]
theorem widen_inj {a b : List Nat} (ha : a.length = 316) (hb : b.length = 316) (h : widen a = widen b) : a = b := by
  have h1 : (Gz.wide (a.take 286) 288).length = 288 := wide_len _ _ (by rw [List.length_take]; omega)
  have h2 : (Gz.wide (b.take 286) 288).length = 288 := wide_len _ _ (by rw [List.length_take]; omega)
  unfold widen at h
  obtain ⟨e1, e2⟩ := List.append_inj h (h1.trans h2.symm)
  unfold Gz.wide at e1 e2
  have e1 := (List.append_inj e1 (by rw [List.length_take, List.length_take]; omega)).1
  have e2 := (List.append_inj e2 (by rw [List.length_drop, List.length_drop]; omega)).1
  rw [← List.take_append_drop 286 a, ← List.take_append_drop 286 b, e1, e2]
theorem widen_two (a b : List Nat) (ha : a.length ≤ 286) (hb : b.length ≤ 30) : widen (Gz.wide a 286 ++ Gz.wide b 30) = Gz.wide a 288 ++ Gz.wide b 32 := by
  have h1 := wide_len a 286 ha
  unfold widen
  rw [List.take_append_of_le_length (by omega), List.take_of_length_le (by omega), List.drop_append_of_le_length (by omega), List.drop_of_length_le (by omega), List.nil_append,
    wide_wide a 286 288 ha (by omega), wide_wide b 30 32 hb (by omega)]

/-- The head of a block of kind 2, both ways. -/
theorem keys_lens (d : List UInt8) (p : Nat) : Gz.keys d p = (Rf.lens d p).bind fun ab q => .ok (widen (ab.1 ++ ab.2), q) := by
  unfold Gz.keys Rf.lens
  cases h1 : Gz.num d 5 p with
  | error k => rfl
  | ok o =>
    obtain ⟨a, p1⟩ := o
    simp only [Gz.Out.bind]
    cases h2 : Gz.num d 5 p1 with
    | error k => rfl
    | ok o =>
      obtain ⟨b, p2⟩ := o
      simp only
      cases h3 : Gz.num d 4 p2 with
      | error k => rfl
      | ok o =>
        obtain ⟨c, p3⟩ := o
        simp only
        by_cases hb : 286 < a + 257 ∨ 30 < b + 1
        · rw [if_pos hb, if_pos hb]
        · rw [if_neg hb, if_neg hb]
          unfold Gz.telling
          cases h4 : Gz.tellGo d (c + 4) 0 (List.replicate 19 0) p3 with
          | error k => rfl
          | ok o =>
            obtain ⟨f, p4⟩ := o
            simp only [Gz.Out.bind]
            by_cases hc : Gz.complete f = true
            · simp only [if_pos hc]
              cases h5 : Gz.told d (Gz.makeCode f) (a + 257 + (b + 1)) p4 with
              | error k => rfl
              | ok o =>
                obtain ⟨l, p5⟩ := o
                have hll := told_len h5
                have hla : (l.take (a + 257)).length = a + 257 := by rw [List.length_take]; omega
                have hlb : (l.drop (a + 257)).length = b + 1 := by rw [List.length_drop]; omega
                simp only
                rw [check_right _ _ (by omega) (by omega)]
                by_cases hr : Rf.right (l.take (a + 257)) (l.drop (a + 257)) = true
                · rw [if_pos hr, if_pos hr]
                  simp only
                  rw [widen_two _ _ (by omega) (by omega)]
                · rw [if_neg hr, if_neg hr]
            · simp only [if_neg hc]
theorem lens_len {d : List UInt8} {p q : Nat} {a b : List Nat} (h : Rf.lens d p = .ok ((a, b), q)) : a.length = 286 ∧ b.length = 30 := by
  unfold Rf.lens at h
  obtain ⟨x, p1, h1, h⟩ := Gz.bind_ok h
  obtain ⟨y, p2, h2, h⟩ := Gz.bind_ok h
  obtain ⟨z, p3, h3, h⟩ := Gz.bind_ok h
  split at h
  · cases h
  rename_i hb
  obtain ⟨f, p4, h4, h⟩ := Gz.bind_ok h
  split at h
  · obtain ⟨l, p5, h5, h⟩ := Gz.bind_ok h
    have hll := told_len h5
    split at h
    · cases h
      exact ⟨wide_len _ _ (by rw [List.length_take]; omega), wide_len _ _ (by rw [List.length_drop]; omega)⟩
    · cases h
  · cases h
theorem table_lens {d : List UInt8} {p q : Nat} {a b : List Nat} (h : Rf.lens d p = .ok ((a, b), q)) : Gz.makeTable (widen (a ++ b)) = ⟨Gz.makeCode a, Gz.makeCode b⟩ := by
  have h1 := codes_lens d p
  have h2 := Gz.codes_keys d p
  rw [keys_lens, h] at h2
  rw [h1, h] at h2
  simp only [Gz.Out.bind] at h2
  injection h2 with h2
  injection h2 with h2
  exact h2.symm

theorem copyN_out (lim far : Nat) : ∀ (n : Nat) (x : Rf.D), x.st = 0 → (Rf.copyN lim far n x).out = Gz.copyO lim far n x.out ∧ (Rf.copyN lim far n x).keys = x.keys
  | 0, x, _ => ⟨rfl, rfl⟩
  | n + 1, x, h => by
    unfold Gz.copyO Rf.copyN
    rw [if_pos h]
    by_cases hl : lim ≤ x.out.length
    · have e : Rf.put lim x (x.out.getD (x.out.length - far) 0) = { x with st := 8 } := by unfold Rf.put; rw [if_pos hl]
      rw [if_pos hl, e, copyN_bad _ _ _ _ (by show ¬ 8 = 0; omega)]
      exact ⟨rfl, rfl⟩
    · have e : Rf.put lim x (x.out.getD (x.out.length - far) 0) = { x with out := x.out ++ [x.out.getD (x.out.length - far) 0] } := by unfold Rf.put; rw [if_neg hl]
      rw [if_neg hl, e]
      exact copyN_out lim far n { x with out := x.out ++ [x.out.getD (x.out.length - far) 0] } h

/-- One symbol, both ways: st is what the machine's step came to. -/
def SymT (m : Gz.M) (x : Rf.D) (st : Gz.Step) (Y : Rf.D × Bool) : Prop :=
  Y.1.keys = x.keys ∧ ((Y.2 = true ∧ Y.1.st = 0 ∧ st = .ok { m.over with out := Y.1.out, pos := Y.1.pos }) ∨ (Y.2 = false ∧ Y.1.st = 0 ∧ st = .ok { m with out := Y.1.out, pos := Y.1.pos }) ∨ (Y.2 = false ∧ Y.1.st ≠ 0 ∧ st = .error (Y.1.st, Y.1.out)))
theorem symT_bad {m : Gz.M} {x Y : Rf.D} {st : Gz.Step} {k : Nat} {o : List UInt8} (h : k ≠ 0) (h1 : Y.st = k) (h2 : Y.out = o) (h3 : Y.keys = x.keys) (e : st = .error (k, o)) : SymT m x st (Y, false) :=
  ⟨h3, .inr (.inr ⟨rfl, by show Y.st ≠ 0; rw [h1]; exact h, by show st = .error (Y.st, Y.out); rw [h1, h2]; exact e⟩)⟩
theorem copied_tells (d : List UInt8) (lim : Nat) (t : Gz.Table) (x : Rf.D) (m : Gz.M) (sy p1 : Nat) (h : x.st = 0) (ho : m.out = x.out) (h285 : sy ≤ 285) :
    SymT m x (Gz.thenS (Gz.farBits d t sy p1) m.out (Gz.copyS lim sy m)) (Rf.copied d lim t.dists sy { x with pos := p1 }, false) := by
  unfold Gz.farBits Rf.copied Rf.lenDist
  rw [if_neg (show ¬ 285 < sy by omega)]
  cases h2 : Gz.num d (Gz.lenBits sy) p1 with
  | error k => exact symT_bad (k := k) (by have := Gz.num_bad h2; omega) rfl ho.symm rfl rfl
  | ok o =>
    obtain ⟨v, p2⟩ := o
    simp only [Gz.Out.bind]
    cases h3 : Gz.dist d t.dists p2 with
    | error k => exact symT_bad (Gz.dist_bad h3) rfl ho.symm rfl rfl
    | ok o =>
      obtain ⟨far, p3⟩ := o
      simp only [Gz.thenS, Gz.copyS]
      by_cases hf : x.out.length < far
      · rw [if_pos hf, if_pos (by rw [ho]; exact hf)]
        exact symT_bad (k := 7) (by omega) rfl ho.symm rfl rfl
      · rw [if_neg hf, if_neg (by rw [ho]; exact hf)]
        have hc := copy_agree lim far (Gz.lenFrom.getD (sy - 257) 0 + v) { x with pos := p3, toks := x.toks ++ [(Gz.lenFrom.getD (sy - 257) 0 + v, far)] } h
        have hco := copyN_out lim far (Gz.lenFrom.getD (sy - 257) 0 + v) { x with pos := p3, toks := x.toks ++ [(Gz.lenFrom.getD (sy - 257) 0 + v, far)] } h
        cases hg : Gz.copyGo lim far (Gz.lenFrom.getD (sy - 257) 0 + v) x.out with
        | none =>
          have e : Gz.copyGo lim far (Gz.lenFrom.getD (sy - 257) 0 + v) ({ x with pos := p3, toks := x.toks ++ [(Gz.lenFrom.getD (sy - 257) 0 + v, far)] } : Rf.D).out = none := hg
          rw [e] at hc
          rw [if_pos (by rw [ho]; exact hg)]
          exact symT_bad (k := 8) (by omega) hc (by rw [hco.1, ho]) hco.2 rfl
        | some o =>
          have e : Gz.copyGo lim far (Gz.lenFrom.getD (sy - 257) 0 + v) ({ x with pos := p3, toks := x.toks ++ [(Gz.lenFrom.getD (sy - 257) 0 + v, far)] } : Rf.D).out = some o := hg
          rw [e] at hc
          obtain ⟨c1, _, c3⟩ := hc
          rw [if_neg (by rw [ho, hg]; simp)]
          refine ⟨hco.2, .inr (.inl ⟨rfl, c1, ?_⟩)⟩
          show (Except.ok _ : Gz.Step) = Except.ok { m with out := (Rf.copyN _ _ _ _).out, pos := (Rf.copyN _ _ _ _).pos }
          rw [hco.1, c3, ho]
theorem sym_tells (d : List UInt8) (lim : Nat) (t : Gz.Table) (x : Rf.D) (m : Gz.M) (h : x.st = 0) (hpl : m.pl = 4) (htb : m.tab = some t) (ho : m.out = x.out) (hp : m.pos = x.pos) :
    SymT m x (Gz.step d lim m) (Rf.symStep d lim t x) := by
  have hst : Gz.step d lim m = Gz.thenS (Gz.sym d t.syms m.pos) m.out (Gz.obeyS d lim t m) := by unfold Gz.step; rw [hpl]; simp only [htb]
  rw [hst, hp]
  unfold Rf.symStep
  cases h1 : Gz.sym d t.syms x.pos with
  | error k => exact symT_bad (sym_bad h1) rfl ho.symm rfl rfl
  | ok o =>
    obtain ⟨sy, p1⟩ := o
    show SymT m x (Gz.obeyS d lim t m sy p1) (if sy = 256 then _ else _)
    unfold Gz.obeyS
    by_cases h256 : sy = 256
    · simp only [if_pos h256, if_neg (show ¬ sy < 256 by omega)]
      exact ⟨rfl, .inl ⟨rfl, h, by show _ = (Except.ok { m.over with out := x.out, pos := p1 } : Gz.Step); rw [← ho]; rfl⟩⟩
    simp only [if_neg h256]
    by_cases hlt : sy < 256
    · simp only [if_pos hlt]
      unfold Rf.put
      by_cases hl : lim ≤ x.out.length
      · rw [if_pos (by rw [ho]; exact hl), if_pos hl]
        exact symT_bad (k := 8) (by omega) rfl ho.symm rfl rfl
      · rw [if_neg (by rw [ho]; exact hl), if_neg hl]
        exact ⟨rfl, .inr (.inl ⟨rfl, h, by rw [ho]⟩)⟩
    simp only [if_neg hlt]
    by_cases h285 : sy ≤ 285
    · simp only [if_pos h285]
      exact copied_tells d lim t x m sy p1 h ho h285
    · simp only [if_neg h285]
      unfold Rf.copied
      rw [if_pos (show 285 < sy by omega)]
      exact symT_bad (k := 6) (by omega) rfl ho.symm rfl rfl

/-- A block's end, or what was met in it. -/
def Part (d : List UInt8) (lim : Nat) (m : Gz.M) (Y : Rf.D) : Prop :=
  (Y.st = 0 ∧ Y.pos ≤ 8 * d.length ∧ m.pos ≤ Y.pos ∧ ∃ e, Gz.final d lim m = Gz.final d lim { m.over with out := Y.out, pos := Y.pos, le := e }) ∨
  (Y.st ≠ 0 ∧ Gz.step d lim (Gz.final d lim m) = .error (Y.st, Y.out) ∧ (Gz.final d lim m).asks = m.asks)
theorem Part.bad {d : List UInt8} {lim : Nat} {m : Gz.M} {Y : Rf.D} (h0 : Y.st ≠ 0) (h : Gz.step d lim m = .error (Y.st, Y.out)) : Part d lim m Y :=
  .inr ⟨h0, by rw [Gz.final_bad h]; exact h, by rw [Gz.final_bad h]⟩
theorem Part.on {d : List UInt8} {lim : Nat} {m m' : Gz.M} {Y : Rf.D} (h : Gz.step d lim m = .ok m') (hp : m.pos ≤ 8 * d.length) (h1 : m'.la = m.la) (h2 : m'.asks = m.asks) (H : Part d lim m' Y) : Part d lim m Y := by
  have hs := Gz.step_less h hp
  rcases H with ⟨a, b, c, e, H⟩ | ⟨a, b, c⟩
  · refine .inl ⟨a, b, by omega, e, ?_⟩
    rw [Gz.final_ok h hp, H]
    unfold Gz.M.over
    rw [h1, h2]
  · exact .inr ⟨a, by rw [Gz.final_ok h hp]; exact b, by rw [Gz.final_ok h hp, c, h2]⟩

theorem syms_tells (d : List UInt8) (lim : Nat) (t : Gz.Table) : ∀ (n : Nat) (x : Rf.D) (m : Gz.M), x.st = 0 → m.pl = 4 → m.tab = some t → m.out = x.out → m.pos = x.pos → x.pos ≤ 8 * d.length → 8 * d.length + 1 - x.pos ≤ n →
    Part d lim m (Rf.symsN d lim t n x) ∧ (Rf.symsN d lim t n x).keys = x.keys
  | 0, x, m, _, _, _, _, _, hp, hn => by omega
  | n + 1, x, m, h, hpl, htb, ho, hpp, hp, hn => by
    have hs := sym_tells d lim t x m h hpl htb ho hpp
    unfold Rf.symsN
    rw [if_pos h]
    generalize Rf.symStep d lim t x = Y at hs ⊢
    obtain ⟨y, b⟩ := Y
    obtain ⟨hk, hs⟩ := hs
    have hk : y.keys = x.keys := hk
    rcases hs with ⟨h1, h2, h3⟩ | ⟨h1, h2, h3⟩ | ⟨h1, h2, h3⟩
    · have h1 : b = true := h1
      have hl := Gz.step_less h3 (by omega)
      rw [if_pos h1]
      exact ⟨.inl ⟨h2, hl.2.1, hl.1, m.le, by rw [Gz.final_ok h3 (by omega)]; rfl⟩, hk⟩
    · have h1 : b = false := h1
      have hl := Gz.step_less h3 (by omega)
      have hr : m.pos < y.pos := by
        have r2 : Gz.rank d { m with out := y.out, pos := y.pos } < Gz.rank d m := hl.2.2
        have r0 : Gz.rank d m = 2 * (8 * d.length - m.pos) := by unfold Gz.rank; rw [if_neg (by rw [hpl]; omega)]; rfl
        have r1 : 2 * (8 * d.length - y.pos) ≤ Gz.rank d { m with out := y.out, pos := y.pos } := by unfold Gz.rank; exact Nat.le_add_right _ _
        omega
      rw [if_neg (by rw [h1]; simp)]
      have ih := syms_tells d lim t n y { m with out := y.out, pos := y.pos } h2 hpl htb rfl rfl hl.2.1 (by omega)
      exact ⟨Part.on h3 (by omega) rfl rfl ih.1, ih.2.trans hk⟩
    · have h1 : b = false := h1
      rw [if_neg (by rw [h1]; simp), symsN_bad _ _ _ _ _ h2]
      exact ⟨Part.bad h2 h3, hk⟩

theorem symsW_tells (d : List UInt8) (lim : Nat) (t : Gz.Table) (x : Rf.D) (m : Gz.M) (h : x.st = 0) (h1 : m.pl = 4) (h2 : m.tab = some t) (h3 : m.out = x.out) (h4 : m.pos = x.pos) (h5 : x.pos ≤ 8 * d.length) :
    Part d lim m (Rf.syms d lim t x) ∧ (Rf.syms d lim t x).keys = x.keys := syms_tells d lim t _ x m h h1 h2 h3 h4 h5 (Nat.le_refl _)
theorem bytes_tells (d : List UInt8) (lim : Nat) : ∀ (n : Nat) (x : Rf.D) (m : Gz.M), x.st = 0 → m.pl = 2 → m.le = n → m.out = x.out → m.pos = x.pos → x.pos ≤ 8 * d.length →
    Part d lim m (Rf.bytesN d lim n x) ∧ (Rf.bytesN d lim n x).keys = x.keys
  | 0, x, m, h, hpl, hle, ho, hpp, hp => by
    have hst : Gz.step d lim m = .ok m.over := by unfold Gz.step; rw [hpl]; simp only [if_pos hle]
    refine ⟨.inl ⟨h, hp, by show m.pos ≤ x.pos; omega, m.le, ?_⟩, rfl⟩
    rw [Gz.final_ok hst (by omega)]
    show Gz.final d lim m.over = Gz.final d lim { m.over with out := x.out, pos := x.pos, le := m.le }
    rw [← ho, ← hpp]
    rfl
  | n + 1, x, m, h, hpl, hle, ho, hpp, hp => by
    have hst : Gz.step d lim m = Gz.thenS (Gz.num d 8 x.pos) x.out (Gz.byteS lim m) := by unfold Gz.step; rw [hpl]; simp only [if_neg (show ¬ m.le = 0 by omega)]; rw [hpp, ho]
    unfold Rf.bytesN
    rw [if_pos h]
    cases h1 : Gz.num d 8 x.pos with
    | error k =>
      rw [h1] at hst
      exact ⟨Part.bad (Y := { x with st := k }) (by have := Gz.num_bad h1; show k ≠ 0; omega) hst, rfl⟩
    | ok o =>
      obtain ⟨v, p1⟩ := o
      rw [h1] at hst
      simp only [Gz.thenS] at hst
      simp only
      unfold Gz.byteS at hst
      by_cases hl : lim ≤ x.out.length
      · have e : Rf.put lim { x with pos := p1 } (UInt8.ofNat v) = { x with pos := p1, st := 8 } := by unfold Rf.put; rw [if_pos hl]
        rw [e, bytesN_bad _ _ _ _ (by show ¬ 8 = 0; omega)]
        rw [if_pos (by rw [ho]; exact hl)] at hst
        exact ⟨Part.bad (by show ¬ 8 = 0; omega) (by rw [hst, ho]), rfl⟩
      · have e : Rf.put lim { x with pos := p1 } (UInt8.ofNat v) = { x with pos := p1, out := x.out ++ [UInt8.ofNat v] } := by unfold Rf.put; rw [if_neg hl]
        rw [e]
        rw [if_neg (by rw [ho]; exact hl)] at hst
        have hn := num_ok h1
        have ih := bytes_tells d lim n { x with pos := p1, out := x.out ++ [UInt8.ofNat v] } { m with le := m.le - 1, out := m.out ++ [UInt8.ofNat v], pos := p1 } h hpl (by show m.le - 1 = n; omega) (by show m.out ++ _ = x.out ++ _; rw [ho]) rfl (by show p1 ≤ _; omega)
        exact ⟨Part.on hst (by omega) rfl rfl ih.1, ih.2⟩

theorem stored_tells (d : List UInt8) (lim : Nat) (x : Rf.D) (m : Gz.M) (h : x.st = 0) (hpl : m.pl = 1) (ho : m.out = x.out) (hpp : m.pos = x.pos) (hp : x.pos ≤ 8 * d.length) :
    Part d lim m (Rf.stored d lim x) ∧ (Rf.stored d lim x).keys = x.keys := by
  have hst : Gz.step d lim m = Gz.thenS (Gz.sizes d x.pos) x.out fun n q => .ok { m with pl := 2, le := n, pos := q } := by unfold Gz.step; rw [hpl]; simp only; rw [hpp, ho]
  unfold Gz.sizes at hst
  unfold Rf.stored
  cases h1 : Gz.num d 16 (8 * ((x.pos + 7) / 8)) with
  | error k =>
    rw [h1] at hst
    exact ⟨Part.bad (Y := { x with st := k }) (by have := Gz.num_bad h1; show k ≠ 0; omega) hst, rfl⟩
  | ok o =>
    obtain ⟨n, p1⟩ := o
    rw [h1] at hst
    simp only [Gz.Out.bind] at hst ⊢
    cases h2 : Gz.num d 16 p1 with
    | error k =>
      rw [h2] at hst
      exact ⟨Part.bad (Y := { x with st := k }) (by have := Gz.num_bad h2; show k ≠ 0; omega) hst, rfl⟩
    | ok o2 =>
      obtain ⟨v, p2⟩ := o2
      rw [h2] at hst
      simp only at hst ⊢
      have e2 := num_ok h2
      by_cases hm : v + n = 65535
      · rw [if_neg (by omega)] at hst
        rw [if_neg (by omega)]
        have ih := bytes_tells d lim n { x with pos := p2 } { m with pl := 2, le := n, pos := p2 } h rfl rfl ho rfl e2.2
        exact ⟨Part.on hst (by omega) rfl rfl ih.1, ih.2⟩
      · rw [if_pos hm] at hst
        rw [if_pos hm]
        exact ⟨Part.bad (Y := { x with st := 4, pos := p2 }) (by show ¬ 4 = 0; omega) hst, rfl⟩

/-- What the machine comes to from m is what the document's reading came to. -/
def Tells (d : List UInt8) (lim : Nat) (m : Gz.M) (y : Rf.D × Bool) : Prop :=
  ∃ k, Gz.step d lim (Gz.final d lim m) = .error (k, y.1.out) ∧ (Gz.final d lim m).asks = y.1.keys.map widen ∧ (∀ l ∈ y.1.keys, l.length = 316) ∧
    ((k = 0 ∧ y.2 = true ∧ y.1.st = 0 ∧ y.1.pos = (Gz.final d lim m).pos) ∨ (k ≠ 0 ∧ y.2 = false ∧ y.1.st = k))
theorem Tells.on {d : List UInt8} {lim : Nat} {m m' : Gz.M} {y : Rf.D × Bool} (h : Gz.final d lim m = Gz.final d lim m') (H : Tells d lim m' y) : Tells d lim m y := by
  unfold Tells at *; rw [h]; exact H

theorem step_five {d : List UInt8} {lim : Nat} {m : Gz.M} (h : m.pl = 5) : Gz.step d lim m = .error (0, m.out) := by unfold Gz.step; rw [h]; rfl
/-- Behind a block. -/
theorem part_tells {d : List UInt8} {lim : Nat} {m : Gz.M} {Y : Rf.D} {n : Nat} (H : Part d lim m Y) (hk : m.asks = Y.keys.map widen) (hkl : ∀ l ∈ Y.keys, l.length = 316)
    (IH : ∀ m', m'.pl = 0 → m'.out = Y.out → m'.pos = Y.pos → m'.asks = Y.keys.map widen → Y.st = 0 → Y.pos ≤ 8 * d.length → m.pos ≤ Y.pos → Tells d lim m' (Rf.readN d lim n Y)) :
    Tells d lim m (if Y.st = 0 then (if m.la then (Y, true) else Rf.readN d lim n Y) else (Y, false)) := by
  rcases H with ⟨a, b, c, e, H⟩ | ⟨a, b, c⟩
  · rw [if_pos a]
    refine Tells.on H ?_
    cases hla : m.la with
    | true =>
      have hm : ({ m.over with out := Y.out, pos := Y.pos, le := e } : Gz.M).pl = 5 := by show (if m.la then 5 else 0) = 5; rw [hla]; rfl
      have hs : Gz.step d lim { m.over with out := Y.out, pos := Y.pos, le := e } = .error (0, Y.out) := step_five hm
      rw [if_pos rfl]
      refine ⟨0, by rw [Gz.final_bad hs]; exact hs, by rw [Gz.final_bad hs]; exact hk, hkl, .inl ⟨rfl, rfl, a, by rw [Gz.final_bad hs]⟩⟩
    | false =>
      rw [if_neg (by simp)]
      exact IH _ (by show (if m.la then 5 else 0) = 0; rw [hla]; rfl) rfl rfl hk a b c
  · rw [if_neg a]
    exact ⟨Y.st, b, c.trans hk, hkl, .inr ⟨a, rfl, rfl⟩⟩

theorem readN_tells (d : List UInt8) (lim : Nat) : ∀ (n : Nat) (x : Rf.D) (m : Gz.M), x.st = 0 → m.pl = 0 → m.out = x.out → m.pos = x.pos → m.asks = x.keys.map widen → (∀ l ∈ x.keys, l.length = 316) → x.pos ≤ 8 * d.length → 8 * d.length + 1 - x.pos ≤ n →
    Tells d lim m (Rf.readN d lim n x)
  | 0, x, m, _, _, _, _, _, _, hp, hn => by omega
  | n + 1, x, m, h, hpl, ho, hpp, hk, hkl, hp, hn => by
    have hst : Gz.step d lim m = Gz.thenS (Gz.headBits d x.pos) x.out (Gz.headS m) := by unfold Gz.step; rw [hpl]; simp only; rw [hpp, ho]
    unfold Rf.readN
    have hbad : ∀ {k : Nat} {Y : Rf.D}, k ≠ 0 → Y.st = k → Y.out = x.out → Y.keys = x.keys → Gz.step d lim m = .error (k, x.out) → Tells d lim m (if Y.st = 0 then (if false = true then (Y, true) else Rf.readN d lim n Y) else (Y, false)) := by
      intro k Y h0 h1 h2 h3 hs
      rw [if_neg (by rw [h1]; exact h0)]
      refine ⟨k, by rw [Gz.final_bad hs, hs]; show _ = Except.error (k, Y.out); rw [h2], by rw [Gz.final_bad hs, hk]; show _ = Y.keys.map widen; rw [h3], by show ∀ l ∈ Y.keys, _; rw [h3]; exact hkl, .inr ⟨h0, rfl, h1⟩⟩
    unfold Rf.block
    unfold Gz.headBits at hst
    cases h1 : (Gz.num d 1 x.pos).bind fun a p1 => (Gz.num d 2 p1).bind fun k p2 => .ok ((a, k), p2) with
    | error k =>
      rw [h1] at hst
      have hk0 : k = 2 := by
        rcases bind_bad h1 with e | ⟨_, _, _, e⟩
        · exact Gz.num_bad e
        · rcases bind_bad e with e | ⟨_, _, _, e⟩
          · exact Gz.num_bad e
          · cases e
      exact hbad (k := k) (Y := { x with st := k }) (by omega) rfl rfl rfl hst
    | ok o =>
      obtain ⟨⟨a, kd⟩, p2⟩ := o
      have hp2 := Gz.headBits_ok (show Gz.headBits d x.pos = .ok ((a, kd), p2) from h1)
      have hkd : kd < 4 := by
        obtain ⟨a', p', e1, e⟩ := Gz.bind_ok h1
        obtain ⟨k', q', e2, e⟩ := Gz.bind_ok e
        cases e
        unfold Gz.num at e2
        split at e2
        · injection e2 with e; injection e with e1 e2; rw [← e1]; exact val_lt d p' 2
        · cases e2
      rw [h1] at hst
      simp only [Gz.thenS, Gz.headS] at hst
      simp only
      by_cases k3 : kd = 3
      · rw [if_neg (by omega), if_neg (by omega), if_neg (by omega), ho] at hst
        simp only [if_pos k3]
        exact hbad (k := 3) (Y := { x with st := 3, pos := p2 }) (by omega) rfl rfl rfl hst
      · simp only [if_neg k3]
        by_cases k0 : kd = 0
        · rw [if_pos k0] at hst
          simp only [if_pos k0]
          have H := stored_tells d lim { x with pos := p2, kinds := x.kinds ++ [0] } { m with pl := 1, la := a == 1, pos := p2 } h rfl ho rfl hp2.2
          refine Tells.on (Gz.final_ok hst (by omega : m.pos ≤ 8 * d.length)) (part_tells (n := n) (m := { m with pl := 1, la := a == 1, pos := p2 }) H.1 (by rw [H.2]; exact hk) (by rw [H.2]; exact hkl) (fun m' q1 q2 q3 q4 q5 q6 q7 => ?_))
          have q7 : p2 ≤ _ := q7
          exact readN_tells d lim n _ m' q5 q1 q2 q3 q4 (by rw [H.2]; exact hkl) q6 (by omega)
        · rw [if_neg k0] at hst
          simp only [if_neg k0]
          by_cases k1 : kd = 1
          · rw [if_pos k1] at hst
            simp only [if_pos k1]
            have H := symsW_tells d lim ⟨Gz.makeCode Rf.fixedA, Gz.makeCode Rf.fixedB⟩ { x with pos := p2, kinds := x.kinds ++ [1] } { m with pl := 4, la := a == 1, tab := some Gz.fixed, pos := p2 } h rfl (by show some Gz.fixed = _; rw [fixed_eq]) ho rfl hp2.2
            refine Tells.on (Gz.final_ok hst (by omega : m.pos ≤ 8 * d.length)) (part_tells (n := n) (m := { m with pl := 4, la := a == 1, tab := some Gz.fixed, pos := p2 }) H.1 (by rw [H.2]; exact hk) (by rw [H.2]; exact hkl) (fun m' q1 q2 q3 q4 q5 q6 q7 => ?_))
            have q7 : p2 ≤ _ := q7
            exact readN_tells d lim n _ m' q5 q1 q2 q3 q4 (by rw [H.2]; exact hkl) q6 (by omega)
          · rw [if_neg k1, if_pos (by omega)] at hst
            simp only [if_neg k1]
            have hst2 : Gz.step d lim { m with pl := 3, la := a == 1, pos := p2 } = Gz.thenS (Gz.keys d p2) m.out fun l q => .ok { m with pl := 4, la := a == 1, tab := some (Gz.makeTable l), asks := m.asks ++ [l], pos := q } := rfl
            rw [keys_lens] at hst2
            cases h3 : Rf.lens d p2 with
            | error k =>
              rw [h3] at hst2
              have hk0 := lens_bad h3
              have hst2 : Gz.step d lim { m with pl := 3, la := a == 1, pos := p2 } = .error (k, m.out) := hst2
              refine Tells.on (Gz.final_ok hst (by omega)) ?_
              simp only
              rw [if_neg hk0]
              refine ⟨k, by rw [Gz.final_bad hst2, hst2, ho], by rw [Gz.final_bad hst2]; exact hk, hkl, .inr ⟨hk0, rfl, rfl⟩⟩
            | ok o =>
              obtain ⟨⟨l, f⟩, p3⟩ := o
              have hlen := lens_len h3
              have htab := table_lens h3
              have hmore := codes_more (show Gz.codes d p2 = .ok (_, p3) by rw [codes_lens, h3]; rfl)
              rw [h3] at hst2
              simp only [Gz.Out.bind, Gz.thenS] at hst2
              rw [htab] at hst2
              simp only
              have H := symsW_tells d lim ⟨Gz.makeCode l, Gz.makeCode f⟩ { x with pos := p3, kinds := x.kinds ++ [2], keys := x.keys ++ [l ++ f] } { m with pl := 4, la := a == 1, tab := some ⟨Gz.makeCode l, Gz.makeCode f⟩, asks := m.asks ++ [widen (l ++ f)], pos := p3 } h rfl rfl ho rfl (by show p3 ≤ _; omega)
              have hkl2 : ∀ y ∈ x.keys ++ [l ++ f], y.length = 316 := fun y hy => by
                rcases List.mem_append.1 hy with hy | hy
                · exact hkl y hy
                · rw [List.mem_singleton.1 hy, List.length_append]; omega
              refine Tells.on ((Gz.final_ok hst (by omega)).trans (Gz.final_ok hst2 (by show p2 ≤ _; omega))) (part_tells (m := { m with pl := 4, la := a == 1, tab := some ⟨Gz.makeCode l, Gz.makeCode f⟩, asks := m.asks ++ [widen (l ++ f)], pos := p3 }) H.1 (by rw [H.2]; show m.asks ++ _ = (x.keys ++ _).map widen; rw [hk, List.map_append]; rfl) (by rw [H.2]; exact hkl2) (fun m' q1 q2 q3 q4 q5 q6 q7 => ?_))
              have q7 : p3 ≤ _ := q7
              exact readN_tells d lim n _ m' q5 q1 q2 q3 q4 (by rw [H.2]; exact hkl2) q6 (by omega)

theorem read_tells (d : List UInt8) (lim : Nat) : Tells d lim Gz.M.start (Rf.read d lim) :=
  readN_tells d lim (8 * d.length + 1) Rf.start Gz.M.start rfl rfl rfl rfl rfl (fun l hl => by cases hl) (Nat.zero_le _) (by show 8 * d.length + 1 - 0 ≤ _; omega)

/-- Where bits are lacking, nothing was put out in that step. -/
theorem step_lacks {d : List UInt8} {lim : Nat} {m : Gz.M} {o : List UInt8} (h : Gz.step d lim m = .error (2, o)) : o = m.out := by
  have hth : ∀ {α : Type} {r : Gz.Out α} {f : α → Nat → Gz.Step}, (∀ a q, f a q = .error (2, o) → o = m.out) → Gz.thenS r m.out f = .error (2, o) → o = m.out := by
    intro α r f hf h
    cases r with
    | error k => simp only [Gz.thenS] at h; injection h with h; injection h with _ h; exact h.symm
    | ok x => obtain ⟨a, q⟩ := x; exact hf a q h
  unfold Gz.step at h
  split at h
  · refine hth (fun a q h => ?_) h
    unfold Gz.headS at h
    split at h
    · cases h
    split at h
    · cases h
    split at h
    · cases h
    · cases h
  · exact hth (fun a q h => by cases h) h
  · split at h
    · cases h
    · refine hth (fun a q h => ?_) h
      unfold Gz.byteS at h
      split at h <;> cases h
  · exact hth (fun a q h => by cases h) h
  · split at h
    · cases h
    · refine hth (fun a q h => ?_) h
      unfold Gz.obeyS at h
      split at h
      · split at h <;> cases h
      split at h
      · cases h
      split at h
      · refine hth (fun a q h => ?_) h
        unfold Gz.copyS at h
        split at h
        · cases h
        split at h
        · cases h
        · cases h
      · cases h
  · cases h
end Go.Proofs.YtjjjlilflbddoaaGreatDoor
/-
  The document's decoder as a function, and the program's beside it.
-/
namespace Go.Proofs.YtjjjlilflbddoaaGreatDoor
namespace Rf

structure Dec where
  cache : Nat
  keys : List (List Nat)
  made : Nat
  begun : Bool
  lim : Nat
  data : List UInt8
  err : Nat
  done : Bool
  used : Int
  told : Nat
  asked : Nat

def Dec.new (c : Nat) : Dec := ⟨c, [], 0, false, 0, [], 0, false, 0, 0, 0⟩
def Dec.begin (x : Dec) (l : Nat) : Dec := { x with begun := true, lim := l, data := [], err := 0, done := false, used := 0, told := 0, asked := 0 }
def Dec.drop (x : Dec) : Dec := { x with keys := [] }
def Dec.list (x : Dec) (k : List Nat) : List (List Nat) := x.keys.filter (fun a => !(a == k)) ++ [k]
def Dec.hit (x : Dec) (k : List Nat) : Bool := x.keys.any fun a => a == k
def Dec.ask (x : Dec) (k : List Nat) : Dec := { x with made := if x.hit k then x.made else x.made + 1, keys := (x.list k).drop ((x.list k).length - x.cache) }
def Dec.asks (x : Dec) (ks : List (List Nat)) : Dec := ks.foldl Dec.ask x
def erOf (st : Nat) : Nat := if st = 2 then 0 else st
/-- What was read is kept, u: how many bytes were begun. -/
def Dec.fed (x : Dec) (p : List UInt8) (y : D × Bool) (u : Int) : Dec :=
  { x.asks (y.1.keys.drop x.asked) with data := x.data ++ p, told := y.1.out.length, asked := y.1.keys.length, err := erOf y.1.st, done := y.2, used := u }
def Dec.feed (x : Dec) (p : List UInt8) (u : Int) : Dec × List UInt8 × Nat :=
  if x.begun = false ∨ x.done = true ∨ x.err ≠ 0 then (x, [], 12)
  else if 4000 < (x.data ++ p).length then ({ x with err := 1 }, [], 1)
  else (x.fed p (read (x.data ++ p) x.lim) u, (read (x.data ++ p) x.lim).1.out.drop x.told, erOf (read (x.data ++ p) x.lim).1.st)
end Rf

namespace Gz
theorem obeyS_out {d : List UInt8} {lim : Nat} {t : Table} {m m' : M} {s p : Nat} (h : obeyS d lim t m s p = .ok m') : ∃ x, m'.out = m.out ++ x := by
  unfold obeyS at h
  split at h
  · split at h
    · cases h
    · cases h; exact ⟨_, rfl⟩
  split at h
  · cases h; exact ⟨[], (List.append_nil _).symm⟩
  split at h
  · obtain ⟨x, q, h1, h⟩ := thenS_ok h
    unfold copyS at h
    split at h
    · cases h
    split at h
    · cases h
    · cases h; exact copyO_grow _ _ _ _
  · cases h
theorem step_out {d : List UInt8} {lim : Nat} {m m' : M} (h : step d lim m = .ok m') : ∃ x, m'.out = m.out ++ x := by
  have nil : ∃ x, m.out = m.out ++ x := ⟨[], (List.append_nil _).symm⟩
  unfold step at h
  split at h
  · obtain ⟨x, q, h1, h⟩ := thenS_ok h
    unfold headS at h
    split at h
    · cases h; exact nil
    split at h
    · cases h; exact nil
    split at h
    · cases h; exact nil
    · cases h
  · obtain ⟨x, q, h1, h⟩ := thenS_ok h
    cases h; exact nil
  · split at h
    · cases h; exact nil
    · obtain ⟨x, q, h1, h⟩ := thenS_ok h
      unfold byteS at h
      split at h
      · cases h
      · cases h; exact ⟨_, rfl⟩
  · obtain ⟨x, q, h1, h⟩ := thenS_ok h
    cases h; exact nil
  · split at h
    · cases h
    · obtain ⟨x, q, h1, h⟩ := thenS_ok h
      exact obeyS_out h
  · cases h
theorem final_out (d : List UInt8) (lim : Nat) : ∀ m, m.pos ≤ 8 * d.length → ∃ x, (final d lim m).out = m.out ++ x :=
  final_ind (fun m e _ h => by rw [final_bad h]; exact ⟨[], (List.append_nil _).symm⟩) (fun m m' hp h ih => by
    rw [final_ok h hp]
    obtain ⟨a, ha⟩ := step_out h
    obtain ⟨b, hb⟩ := ih
    exact ⟨a ++ b, by rw [hb, ha, List.append_assoc]⟩)
theorem step_bad_out {d : List UInt8} {lim : Nat} {m : M} {k : Nat} {o : List UInt8} (h : step d lim m = .error (k, o)) : ∃ x, o = m.out ++ x := by
  have nil : ∀ {o' : List UInt8}, o' = m.out → ∃ x, o' = m.out ++ x := fun e => ⟨[], by rw [e, List.append_nil]⟩
  have hth : ∀ {α : Type} {r : Out α} {f : α → Nat → Step}, (∀ a q, f a q = .error (k, o) → ∃ x, o = m.out ++ x) → thenS r m.out f = .error (k, o) → ∃ x, o = m.out ++ x := by
    intro α r f hf h
    cases r with
    | error k => simp only [thenS] at h; injection h with h; injection h with _ h; exact nil h.symm
    | ok x => obtain ⟨a, q⟩ := x; exact hf a q h
  unfold step at h
  split at h
  · refine hth (fun a q h => ?_) h
    unfold headS at h
    split at h
    · cases h
    split at h
    · cases h
    split at h
    · cases h
    · cases h; exact nil rfl
  · exact hth (fun a q h => by cases h) h
  · split at h
    · cases h
    · refine hth (fun a q h => ?_) h
      unfold byteS at h
      split at h
      · cases h; exact nil rfl
      · cases h
  · exact hth (fun a q h => by cases h) h
  · split at h
    · cases h; exact nil rfl
    · refine hth (fun a q h => ?_) h
      unfold obeyS at h
      split at h
      · split at h
        · cases h; exact nil rfl
        · cases h
      split at h
      · cases h
      split at h
      · refine hth (fun a q h => ?_) h
        unfold copyS at h
        split at h
        · cases h; exact nil rfl
        split at h
        · cases h; exact copyO_grow _ _ _ _
        · cases h
      · cases h; exact nil rfl
  · cases h; exact nil rfl
end Gz

/-- What is kept, both ways. -/
structure RelT (c : Gz.Tc) (r : Rf.Dec) : Prop where
  most : r.cache = c.most
  made : r.made = c.made
  keys : c.kept.map (fun x => x.1) = r.keys.map widen
  klen : ∀ k ∈ r.keys, k.length = 316
  len : r.keys.length ≤ r.cache

theorem beq_widen {a k : List Nat} (ha : a.length = 316) (hk : k.length = 316) : (widen a == widen k) = (a == k) := by
  by_cases e : a = k
  · rw [e, beq_self_eq_true, beq_self_eq_true]
  · rw [beq_eq_false_iff_ne.2 e, beq_eq_false_iff_ne.2 (fun h => e (widen_inj ha hk h))]
theorem any_widen {k : List Nat} (hk : k.length = 316) : ∀ {l : List (List Nat)}, (∀ a ∈ l, a.length = 316) → (l.map widen).any (fun a => a == widen k) = l.any fun a => a == k
  | [], _ => rfl
  | a :: l, h => by
    rw [List.map_cons, List.any_cons, List.any_cons, beq_widen (h a List.mem_cons_self) hk, any_widen hk (fun x hx => h x (List.mem_cons_of_mem _ hx))]
theorem filter_widen {k : List Nat} (hk : k.length = 316) : ∀ {l : List (List Nat)}, (∀ a ∈ l, a.length = 316) → (l.map widen).filter (fun a => !(a == widen k)) = (l.filter fun a => !(a == k)).map widen
  | [], _ => rfl
  | a :: l, h => by
    rw [List.map_cons, List.filter_cons, List.filter_cons, beq_widen (h a List.mem_cons_self) hk, filter_widen hk (fun x hx => h x (List.mem_cons_of_mem _ hx))]
    cases (a == k) <;> rfl
theorem map_filter_fst (l : List (List Nat × Nat)) (k : List Nat) : (l.filter fun x => !(x.1 == k)).map (fun x => x.1) = (l.map fun x => x.1).filter fun a => !(a == k) := by
  rw [List.filter_map]; rfl
theorem any_fst (l : List (List Nat × Nat)) (k : List Nat) : (l.any fun x => x.1 == k) = (l.map fun x => x.1).any fun a => a == k := by
  rw [List.any_map]; rfl
theorem RelT.ask {c : Gz.Tc} {r : Rf.Dec} {k : List Nat} (h : RelT c r) (hk : k.length = 316) : RelT (c.ask (widen k)) (r.ask k) := by
  have hturn : (c.turn (widen k)).map (fun x => x.1) = (r.list k).map widen := by
    unfold Gz.Tc.turn Rf.Dec.list
    rw [List.map_append, map_filter_fst, h.keys, filter_widen hk h.klen, List.map_append]
    rfl
  have hlen : (c.turn (widen k)).length = (r.list k).length := by
    have := congrArg List.length hturn
    rw [List.length_map, List.length_map] at this
    exact this
  have hle : (r.list k).length ≤ r.cache + 1 := by
    have h1 := List.length_filter_le (fun a : List Nat => !(a == k)) r.keys
    have h2 := h.len
    unfold Rf.Dec.list
    rw [List.length_append, List.length_singleton]
    omega
  refine ⟨h.most, ?_, ?_, ?_, ?_⟩
  · show (if r.hit k then r.made else r.made + 1) = if c.hit (widen k) then c.made else c.made + 1
    have : c.hit (widen k) = r.hit k := by unfold Gz.Tc.hit Rf.Dec.hit; rw [any_fst, h.keys, any_widen hk h.klen]
    rw [this, h.made]
  · show (if c.most < (c.turn (widen k)).length then (c.turn (widen k)).drop 1 else c.turn (widen k)).map (fun x => x.1) = ((r.list k).drop ((r.list k).length - r.cache)).map widen
    rw [List.map_drop, ← hturn, hlen, ← h.most]
    by_cases hm : r.cache < (r.list k).length
    · rw [if_pos hm, show (r.list k).length - r.cache = 1 by omega, List.map_drop]
    · rw [if_neg hm, show (r.list k).length - r.cache = 0 by omega]; rfl
  · intro a ha
    have ha : a ∈ (r.list k).drop ((r.list k).length - r.cache) := ha
    have ha := List.mem_of_mem_drop ha
    unfold Rf.Dec.list at ha
    rcases List.mem_append.1 ha with ha | ha
    · exact h.klen a (List.mem_filter.1 ha).1
    · rw [List.mem_singleton.1 ha]; exact hk
  · show ((r.list k).drop ((r.list k).length - r.cache)).length ≤ r.cache
    rw [List.length_drop]
    omega
theorem RelT.asks {ks : List (List Nat)} : ∀ {c : Gz.Tc} {r : Rf.Dec}, RelT c r → (∀ k ∈ ks, k.length = 316) → RelT (c.asks (ks.map widen)) (r.asks ks) := by
  induction ks with
  | nil => intro c r h _; exact h
  | cons k ks ih => intro c r h hk; exact ih (h.ask (hk k List.mem_cons_self)) (fun x hx => hk x (List.mem_cons_of_mem _ hx))
/-- Only what is kept matters there. -/
theorem RelT.of {c : Gz.Tc} {r r' : Rf.Dec} (h : RelT c r) (h1 : r'.cache = r.cache) (h2 : r'.made = r.made) (h3 : r'.keys = r.keys) : RelT c r' :=
  ⟨h1.trans h.most, h2.trans h.made, by rw [h3]; exact h.keys, by rw [h3]; exact h.klen, by rw [h1, h3]; exact h.len⟩

/-- Two decoders that tell the same. -/
structure Rel (x : Gz.Dec) (r : Rf.Dec) : Prop where
  t : RelT x.tc r
  on : x.on = true → r.begun = true ∧ r.err = 0 ∧ r.done = false ∧ r.lim = x.lim ∧ r.data = x.data ∧ r.told = x.at.out.length ∧ r.asked = x.at.asks.length ∧ x.told = 2 ∧ x.begun = 0
  off : x.on = false → (r.begun = false ∧ x.told = 12 ∧ x.begun = 0) ∨ (r.begun = true ∧ r.err ≠ 0 ∧ x.told = r.err ∧ x.begun = 0) ∨ (r.begun = true ∧ r.err = 0 ∧ r.done = true ∧ x.told = 0 ∧ r.used = x.begun)

theorem Rel.new {c : Nat} : Rel (Gz.Dec.new c) (Rf.Dec.new c) :=
  ⟨⟨rfl, rfl, rfl, fun k hk => (by cases hk), Nat.zero_le _⟩, fun h => (by cases h), fun _ => .inl ⟨rfl, rfl, rfl⟩⟩
theorem Rel.begin {x : Gz.Dec} {r : Rf.Dec} (h : Rel x r) (l : Nat) : Rel (x.begin l) (r.begin l) := by
  have hs : Gz.step [] l Gz.M.start = .error (2, []) := rfl
  have hf : (x.begin l).at = Gz.M.start := by show Gz.final [] l Gz.M.start = _; rw [Gz.final_bad hs]
  exact ⟨h.t.of rfl rfl rfl, fun _ => ⟨rfl, rfl, rfl, rfl, rfl, by rw [hf]; rfl, by rw [hf]; rfl, rfl, rfl⟩, fun h => by cases h⟩
theorem Rel.drop {x : Gz.Dec} {r : Rf.Dec} (h : Rel x r) : Rel { x with tc := x.tc.drop } r.drop :=
  ⟨⟨h.t.most, h.t.made, rfl, fun k hk => (by cases hk), Nat.zero_le _⟩, h.on, h.off⟩
theorem Rel.told_le {x : Gz.Dec} {r : Rf.Dec} (h : Rel x r) (hon : x.on = true) (p : List UInt8) : r.told ≤ (Rf.read (r.data ++ p) r.lim).1.out.length := by
  obtain ⟨_, _, _, h1, h2, h3, _⟩ := h.on hon
  obtain ⟨k, hs, _⟩ := read_tells (x.data ++ p) x.lim
  rw [h1, h2, h3]
  obtain ⟨a, ha⟩ := Gz.step_bad_out hs
  obtain ⟨b, hb⟩ := Gz.final_out (x.data ++ p) x.lim x.at (by have := (Gz.final_pos x.data x.lim Gz.M.start (Nat.zero_le _)).2; rw [List.length_append]; unfold Gz.Dec.at; omega)
  rw [ha, Gz.final_app x.data p x.lim Gz.M.start (Nat.zero_le _)]
  show x.at.out.length ≤ ((Gz.final (x.data ++ p) x.lim x.at).out ++ a).length
  rw [hb, List.length_append, List.length_append]
  omega
theorem Rel.feed {x : Gz.Dec} {r : Rf.Dec} (h : Rel x r) (p : List UInt8) (u : Int) (hu : (Rf.read (r.data ++ p) r.lim).2 = true → u = (((Rf.read (r.data ++ p) r.lim).1.pos + 7) / 8 : Nat)) :
    (r.feed p u).2 = (x.feed p).2 ∧ Rel (x.feed p).1 (r.feed p u).1 := by
  cases hon : x.on with
  | false =>
    have e1 : x.feed p = (x, [], 12) := by unfold Gz.Dec.feed; rw [if_pos hon]
    have e2 : r.feed p u = (r, [], 12) := by
      unfold Rf.Dec.feed
      rw [if_pos]
      rcases h.off hon with h | h | h
      · exact .inl h.1
      · exact .inr (.inr h.2.1)
      · exact .inr (.inl h.2.2.1)
    rw [e1, e2]
    exact ⟨rfl, h⟩
  | true =>
    obtain ⟨b1, b2, b3, b4, b5, b6, b7, b8, b9⟩ := h.on hon
    unfold Gz.Dec.feed Rf.Dec.feed
    rw [if_neg (show ¬ x.on = false by rw [hon]; simp), if_neg (show ¬ (r.begun = false ∨ r.done = true ∨ r.err ≠ 0) by rw [b1, b2, b3]; simp)]
    rw [b5] at hu ⊢
    rw [b4] at hu ⊢
    by_cases hl : 4000 < (x.data ++ p).length
    · rw [if_pos hl, if_pos hl]
      exact ⟨rfl, ⟨h.t.of rfl rfl rfl, fun h => (by cases h), fun _ => .inr (.inl ⟨b1, by show ¬ 1 = 0; omega, rfl, b9⟩)⟩⟩
    · rw [if_neg hl, if_neg hl]
      obtain ⟨k, hs, hasks, hkl, hk⟩ := read_tells (x.data ++ p) x.lim
      generalize Rf.read (x.data ++ p) x.lim = Y at *
      have hmet : Gz.metBy (x.data ++ p) x.lim = (k, Y.1.out) := Gz.metBy_eq hs
      have hat : (x.fed p).at = x.next p := rfl
      have hT : RelT (x.fed p).tc (r.fed p Y u) := by
        have hd : (x.next p).asks.drop x.at.asks.length = (Y.1.keys.drop r.asked).map widen := by
          rw [List.map_drop, ← hasks, b7]; rfl
        show RelT (x.tc.asks ((x.next p).asks.drop x.at.asks.length)) _
        rw [hd]
        exact (h.t.asks (fun k hk => hkl k (List.mem_of_mem_drop hk))).of rfl rfl rfl
      have hfb : (r.fed p Y u).begun = true := by
        have : ∀ (ks : List (List Nat)) (z : Rf.Dec), (z.asks ks).begun = z.begun := by
          intro ks
          induction ks with
          | nil => intro z; rfl
          | cons a l ih => intro z; exact (ih _).trans rfl
        show (r.asks _).begun = true
        rw [this]; exact b1
      have hfl : (r.fed p Y u).lim = x.lim := by
        have : ∀ (ks : List (List Nat)) (z : Rf.Dec), (z.asks ks).lim = z.lim := by
          intro ks
          induction ks with
          | nil => intro z; rfl
          | cons a l ih => intro z; exact (ih _).trans rfl
        show (r.asks _).lim = _
        rw [this]; exact b4
      rw [hmet]
      show (Y.1.out.drop r.told, Rf.erOf Y.1.st) = _ ∧ _
      by_cases k2 : k = 2
      · subst k2
        rw [if_pos rfl]
        have hy := hk.resolve_left (fun e => by omega)
        have hst2 : Y.1.st = 2 := hy.2.2
        have ho := step_lacks hs
        refine ⟨by rw [b6, hst2]; rfl, hT, fun _ => ⟨hfb, ?_, hy.2.1, hfl, ?_, ?_, ?_, b8, b9⟩, fun e => ?_⟩
        · show Rf.erOf Y.1.st = 0; rw [hst2]; rfl
        · show r.data ++ p = x.data ++ p; rw [b5]
        · show Y.1.out.length = _; rw [ho]; rfl
        · show Y.1.keys.length = _; rw [hat]; show _ = (Gz.final (x.data ++ p) x.lim Gz.M.start).asks.length; rw [hasks, List.length_map]
        · exact absurd (show x.on = false from e) (by rw [hon]; simp)
      · rw [if_neg k2]
        by_cases k0 : k = 0
        · subst k0
          rw [if_pos rfl]
          have hy := hk.resolve_right (fun e => e.1 rfl)
          refine ⟨by rw [b6, hy.2.2.1]; rfl, hT, fun e => (by cases e), fun _ => .inr (.inr ⟨hfb, ?_, hy.2.1, rfl, ?_⟩)⟩
          · show Rf.erOf Y.1.st = 0; rw [hy.2.2.1]; rfl
          · show u = _
            rw [hu hy.2.1, hy.2.2.2]; rfl
        · rw [if_neg k0]
          have hy := hk.resolve_left (fun e => k0 e.1)
          have he : Rf.erOf Y.1.st = k := by rw [hy.2.2]; unfold Rf.erOf; rw [if_neg k2]
          refine ⟨by rw [b6, he], hT, fun e => (by cases e), fun _ => .inr (.inl ⟨hfb, ?_, ?_, b9⟩)⟩
          · show Rf.erOf Y.1.st ≠ 0; rw [he]; exact k0
          · show k = Rf.erOf Y.1.st; rw [he]
/-- What the end tells. -/
def Rf.Dec.ending (r : Rf.Dec) : Int × Nat := if r.begun = false then (0, 12) else if r.err ≠ 0 then (0, r.err) else if r.done = false then (0, 2) else (r.used, 0)
theorem Rel.ending {x : Gz.Dec} {r : Rf.Dec} (h : Rel x r) : r.ending = ((x.begun : Int), x.told) := by
  unfold Rf.Dec.ending
  cases hon : x.on with
  | true =>
    obtain ⟨b1, b2, b3, _, _, _, _, b8, b9⟩ := h.on hon
    rw [if_neg (by rw [b1]; simp), if_neg (by rw [b2]; simp), if_pos b3, b8, b9]
    rfl
  | false =>
    rcases h.off hon with ⟨a, b, c⟩ | ⟨a, b, c, d⟩ | ⟨a, b, c, d, e⟩
    · rw [if_pos a, b, c]; rfl
    · rw [if_neg (by rw [a]; simp), if_pos b, c, d]; rfl
    · rw [if_neg (by rw [a]; simp), if_neg (by rw [b]; simp), if_neg (by rw [c]; simp), d, e]
end Go.Proofs.YtjjjlilflbddoaaGreatDoor
