import Derived.Test.YtjjjlilflbddoaaDoorPureN
/-
  The machine of steps and the reader by parts (Pure) come to the same.
-/
namespace Go.Proofs.YtjjjlilflbddoaaDoor
namespace Gz

/-- What all the steps come to: what was put out and the bit behind it, or the number of what was met. -/
def endOf (d : List UInt8) (lim : Nat) (m : M) : Out (List UInt8) :=
  match step d lim (final d lim m) with
  | .error (0, o) => .ok (o, (final d lim m).pos)
  | .error (k + 1, _) => .error (k + 1)
  | .ok _ => .error 99

theorem endOf_ok {d : List UInt8} {lim : Nat} {m m' : M} (h : step d lim m = .ok m') (hp : m.pos ≤ 8 * d.length) : endOf d lim m = endOf d lim m' := by
  unfold endOf; rw [final_ok h hp]
theorem endOf_bad {d : List UInt8} {lim : Nat} {m : M} {k : Nat} {o : List UInt8} (h : step d lim m = .error (k, o)) (hk : k ≠ 0) : endOf d lim m = .error k := by
  unfold endOf
  rw [final_bad h, h]
  cases k with
  | zero => exact absurd rfl hk
  | succ k => rfl
theorem endOf_end {d : List UInt8} {lim : Nat} {m : M} (h : m.pl = 5) : endOf d lim m = .ok (m.out, m.pos) := by
  have hs : step d lim m = .error (0, m.out) := by unfold step; rw [h]; rfl
  unfold endOf
  rw [final_bad hs, hs]

theorem num_bad {d : List UInt8} {n p k : Nat} (h : num d n p = .error k) : k = 2 := by
  unfold num at h; split at h
  · cases h
  · cases h; rfl
theorem dist_bad {d : List UInt8} {c : Code} {p k : Nat} (h : dist d c p = .error k) : k ≠ 0 := by
  unfold dist at h
  cases hs : sym d c p with
  | error k' => rw [hs] at h; cases h; rcases symGo_bad _ _ _ _ _ _ _ _ _ hs with e | e <;> omega
  | ok x =>
    obtain ⟨s, q⟩ := x
    rw [hs] at h
    simp only [Out.bind] at h
    split at h
    · cases h; omega
    · cases hn : num d (distBits s) q with
      | error k' => rw [hn] at h; cases h; have := num_bad hn; omega
      | ok y => rw [hn] at h; cases h

theorem copyO_eq (lim far : Nat) : ∀ n out o, copyGo lim far n out = some o → copyO lim far n out = o
  | 0, out, o, h => by rw [copyGo] at h; cases h; rfl
  | n + 1, out, o, h => by
    rw [copyGo] at h
    rw [copyO]
    split at h
    · cases h
    · rename_i hh; rw [if_neg hh]; exact copyO_eq lim far n _ o h

/-- What a symbol says, both ways. -/
theorem obeyS_eq (d : List UInt8) (lim : Nat) (t : Table) (m : M) (s p : Nat) :
    match obey d t lim s m.out p with
    | .error k => k ≠ 0 ∧ ∃ o, obeyS d lim t m s p = .error (k, o)
    | .ok ((o, b), q) => obeyS d lim t m s p = .ok (if b then { m.over with out := o, pos := q } else { m with out := o, pos := q }) := by
  unfold obey obeyS
  by_cases h1 : s < 256
  · rw [if_pos h1, if_pos h1]
    by_cases h2 : lim ≤ m.out.length
    · rw [if_pos h2, if_pos h2]; exact ⟨by omega, _, rfl⟩
    · rw [if_neg h2, if_neg h2]; rfl
  rw [if_neg h1, if_neg h1]
  by_cases h2 : s = 256
  · rw [if_pos h2, if_pos h2]; rfl
  rw [if_neg h2, if_neg h2]
  by_cases h3 : s ≤ 285
  · rw [if_pos h3, if_pos h3]
    unfold rep farBits
    cases hn : num d (lenBits s) p with
    | error k => have := num_bad hn; exact ⟨by omega, _, rfl⟩
    | ok x =>
      obtain ⟨v, p1⟩ := x
      simp only [Out.bind]
      cases hd : dist d t.dists p1 with
      | error k => have := dist_bad hd; exact ⟨this, _, rfl⟩
      | ok x =>
        obtain ⟨far, p2⟩ := x
        simp only [thenS, copyS]
        by_cases h4 : m.out.length < far
        · rw [if_pos h4, if_pos h4]; exact ⟨by omega, _, rfl⟩
        · rw [if_neg h4, if_neg h4]
          cases hc : copyGo lim far (lenFrom.getD (s - 257) 0 + v) m.out with
          | none => exact ⟨by omega, _, rfl⟩
          | some o => simp; exact copyO_eq _ _ _ _ _ hc
  · rw [if_neg h3, if_neg h3]; exact ⟨by omega, _, rfl⟩

theorem syms_end (d : List UInt8) (lim : Nat) (t : Table) : ∀ n m, 8 * d.length - m.pos ≤ n → m.pl = 4 → m.tab = some t → m.pos ≤ 8 * d.length →
    endOf d lim m = (syms d t lim m.out m.pos).bind fun o q => endOf d lim { m.over with out := o, pos := q } := by
  have key : ∀ m, m.pl = 4 → m.tab = some t → m.pos ≤ 8 * d.length → (∀ m', m.pos < m'.pos → m'.pl = 4 → m'.tab = some t → m'.pos ≤ 8 * d.length → m'.la = m.la → m'.le = m.le → m'.asks = m.asks →
      endOf d lim m' = (syms d t lim m'.out m'.pos).bind fun o q => endOf d lim { m'.over with out := o, pos := q }) →
      endOf d lim m = (syms d t lim m.out m.pos).bind fun o q => endOf d lim { m.over with out := o, pos := q } := by
    intro m hpl htb hp ih
    have hst : step d lim m = thenS (sym d t.syms m.pos) m.out (obeyS d lim t m) := by unfold step; rw [hpl]; simp only [htb]
    have hsy : syms d t lim m.out m.pos = iter (8 * d.length) (symsStep d t lim) m.out m.pos := rfl
    cases hs : sym d t.syms m.pos with
    | error k =>
      rw [hs] at hst
      have hk : k ≠ 0 := by rcases symGo_bad _ _ _ _ _ _ _ _ _ hs with e | e <;> omega
      rw [endOf_bad hst hk, hsy, iter_bad (k := k) (by unfold symsStep; rw [hs]; rfl)]
      rfl
    | ok x =>
      obtain ⟨s, q⟩ := x
      have hq := sym_ok hs
      rw [hs] at hst
      have hst : step d lim m = obeyS d lim t m s q := hst
      have ho := obeyS_eq d lim t m s q
      cases hob : obey d t lim s m.out q with
      | error k =>
        rw [hob] at ho
        obtain ⟨hk, o, ho⟩ := ho
        rw [endOf_bad (hst.trans ho) hk, hsy, iter_bad (k := k) (by unfold symsStep; rw [hs]; simp only [Out.bind]; rw [hob])]
        rfl
      | ok y =>
        obtain ⟨⟨o, b⟩, q2⟩ := y
        have hq2 := obey_ok hob hq.2
        rw [hob] at ho
        have hss : symsStep d t lim m.out m.pos = .ok ((if b then .inr o else .inl o), q2) := by unfold symsStep; rw [hs]; simp only [Out.bind]; rw [hob]
        rw [endOf_ok (hst.trans ho) hp, hsy]
        cases b with
        | true => rw [iter_end hss]; rfl
        | false =>
          rw [iter_more hss (by omega) hq2.2]
          exact ih { m with out := o, pos := q2 } (by show m.pos < q2; omega) hpl htb hq2.2 rfl rfl rfl
  intro n
  induction n with
  | zero => intro m hn hpl htb hp; exact key m hpl htb hp (fun m' h1 _ _ h2 _ _ _ => by omega)
  | succ n ih => intro m hn hpl htb hp; exact key m hpl htb hp (fun m' h1 h2 h3 h4 _ _ _ => ih m' (by omega) h2 h3 h4)

theorem bytes_end (d : List UInt8) (lim : Nat) : ∀ n m, m.le = n → m.pl = 2 → m.pos ≤ 8 * d.length →
    endOf d lim m = (bytes d lim n m.out m.pos).bind fun o q => endOf d lim { m.over with le := 0, out := o, pos := q }
  | 0, m, hle, hpl, hp => by
    have hst : step d lim m = .ok m.over := by unfold step; rw [hpl]; simp only [hle, if_true]
    rw [endOf_ok hst hp, bytes]
    obtain ⟨pl, la, le, tab, asks, out, pos⟩ := m
    cases hle
    rfl
  | n + 1, m, hle, hpl, hp => by
    have hst : step d lim m = thenS (num d 8 m.pos) m.out (byteS lim m) := by
      unfold step; rw [hpl]; simp only; rw [if_neg (by omega)]
    rw [bytes]
    cases hn : num d 8 m.pos with
    | error k => rw [hn] at hst; have := num_bad hn; rw [endOf_bad hst (by omega)]; rfl
    | ok x =>
      obtain ⟨v, q⟩ := x
      have hq := num_ok hn
      rw [hn] at hst
      have hst : step d lim m = byteS lim m v q := hst
      simp only [Out.bind]
      unfold byteS at hst
      by_cases hl : lim ≤ m.out.length
      · rw [if_pos hl] at hst; rw [if_pos hl, endOf_bad hst (by omega)]
      · rw [if_neg hl] at hst
        rw [if_neg hl, endOf_ok hst hp]
        exact bytes_end d lim n { m with le := m.le - 1, out := m.out ++ [UInt8.ofNat v], pos := q } (by show m.le - 1 = n; omega) hpl hq.2

theorem stored_parts (d : List UInt8) (lim : Nat) (out : List UInt8) (p : Nat) : stored d lim out p = (sizes d p).bind fun n q => bytes d lim n out q := by
  unfold stored sizes
  cases num d 16 (8 * ((p + 7) / 8)) with
  | error k => rfl
  | ok x =>
    obtain ⟨n, p1⟩ := x
    simp only [Out.bind]
    cases num d 16 p1 with
    | error k => rfl
    | ok x =>
      obtain ⟨m, p2⟩ := x
      simp only
      split <;> rfl
theorem sizes_bad {d : List UInt8} {p k : Nat} (h : sizes d p = .error k) : k ≠ 0 := by
  unfold sizes at h
  cases h1 : num d 16 (8 * ((p + 7) / 8)) with
  | error k' => rw [h1] at h; cases h; have := num_bad h1; omega
  | ok x =>
    obtain ⟨n, p1⟩ := x
    rw [h1] at h
    simp only [Out.bind] at h
    cases h2 : num d 16 p1 with
    | error k' => rw [h2] at h; cases h; have := num_bad h2; omega
    | ok x =>
      obtain ⟨m, p2⟩ := x
      rw [h2] at h
      simp only at h
      split at h
      · cases h; omega
      · cases h

/-- Where the reader by parts stands, seen by the machine. -/
def M.at_ (m : M) (s : St) (p : Nat) : Prop := m.la = s.last ∧ m.out = s.out ∧ m.pos = p ∧
  match s.place with
  | .inl (false, false) => m.pl = 0
  | .inl (false, true) => m.pl = 1
  | .inl (true, false) => m.pl = 3
  | .inl (true, true) => m.pl = 5
  | .inr t => m.pl = 4 ∧ m.tab = some t

theorem at_over {m : M} {la : Bool} {out : List UInt8} {p : Nat} (h1 : m.la = la) (h2 : m.out = out) (h3 : m.pos = p) (h4 : m.pl = if la then 5 else 0) : m.at_ { place := ended la, last := la, out := out } p := by
  refine ⟨h1, h2, h3, ?_⟩
  unfold ended
  cases la with
  | true => exact h4
  | false => exact h4

/-- No fault has the number 0. -/
def NZ {α : Type} (r : Out α) : Prop := ∀ k, r = .error k → k ≠ 0
theorem NZ.bind {α β : Type} {r : Out α} {f : α → Nat → Out β} (h : NZ r) (hf : ∀ a q, NZ (f a q)) : NZ (r.bind f) := by
  intro k e
  cases r with
  | error k' => cases e; exact h k rfl
  | ok x => obtain ⟨a, q⟩ := x; exact hf a q k e
theorem NZ.leaf {α : Type} (x : α × Nat) : NZ (.ok x) := fun k e => by cases e
theorem NZ.err {α : Type} (k : Nat) (h : k ≠ 0) : NZ (α := α) (.error k) := fun k' e => by cases e; exact h
theorem nz_num (d : List UInt8) (n p : Nat) : NZ (num d n p) := fun k e => by have := num_bad e; omega
theorem nz_sym (d : List UInt8) (c : Code) (p : Nat) : NZ (sym d c p) := fun k e => by rcases symGo_bad _ _ _ _ _ _ _ _ _ e with h | h <;> omega
theorem nz_iter {σ ρ : Type} {N : Nat} {step : σ → Nat → Out (σ ⊕ ρ)} (h : ∀ s p, NZ (step s p)) : ∀ n s p, NZ (iterN N step n s p) := by
  intro n
  induction n with
  | zero =>
    intro s p k e
    rw [iterN] at e
    cases hs : step s p with
    | error k' => rw [hs] at e; cases e; exact h s p k hs
    | ok x =>
      obtain ⟨y, q⟩ := x
      rw [hs] at e
      cases y with
      | inr r => cases e
      | inl s' => cases e; omega
  | succ n ih =>
    intro s p k e
    rw [iterN] at e
    cases hs : step s p with
    | error k' => rw [hs] at e; cases e; exact h s p k hs
    | ok x =>
      obtain ⟨y, q⟩ := x
      rw [hs] at e
      cases y with
      | inr r => cases e
      | inl s' =>
        simp only at e
        split at e
        · exact ih s' q k e
        · cases e; omega
theorem nz_tellGo (d : List UInt8) : ∀ n i l p, NZ (tellGo d n i l p)
  | 0, _, _, _ => NZ.leaf _
  | n + 1, i, l, p => by rw [tellGo]; exact (nz_num d 3 p).bind (fun _ _ => nz_tellGo d n _ _ _)
theorem nz_telling (d : List UInt8) (n p : Nat) : NZ (telling d n p) := by
  refine (nz_tellGo d n 0 _ p).bind (fun l q => ?_)
  split
  · exact NZ.leaf _
  · exact NZ.err 5 (by omega)
theorem nz_told (d : List UInt8) (c : Code) (count p : Nat) : NZ (told d c count p) := by
  refine nz_iter (fun s p => ?_) _ _ _
  unfold toldStep
  split
  · refine (nz_sym d c p).bind (fun x q => NZ.bind (fun k e => by have := run_bad e; omega) (fun lt q2 => ?_))
    split
    · exact NZ.err 5 (by omega)
    split
    · exact NZ.err 5 (by omega)
    · exact NZ.leaf _
  · exact NZ.leaf _
theorem nz_keys (d : List UInt8) (p : Nat) : NZ (keys d p) := by
  refine (nz_num d 5 p).bind (fun a q => (nz_num d 5 q).bind (fun b q2 => (nz_num d 4 q2).bind (fun e q3 => ?_)))
  split
  · exact NZ.err 5 (by omega)
  · refine (nz_telling d _ q3).bind (fun tc q4 => (nz_told d tc _ q4).bind (fun l q5 => ?_))
    split
    · exact NZ.leaf _
    · exact NZ.err 5 (by omega)

theorem read_at (d : List UInt8) (lim : Nat) : ∀ n s p m, 8 * d.length - p ≤ n → M.at_ m s p → p ≤ 8 * d.length → iter (8 * d.length) (goOn d lim) s p = endOf d lim m := by
  have key : ∀ s p m, M.at_ m s p → p ≤ 8 * d.length → (∀ s' q m', p < q → q ≤ 8 * d.length → M.at_ m' s' q → iter (8 * d.length) (goOn d lim) s' q = endOf d lim m') → iter (8 * d.length) (goOn d lim) s p = endOf d lim m := by
    intro s p m hm hp ih
    obtain ⟨place, last, out⟩ := s
    obtain ⟨pl, la, le, tab, asks, mo, pos⟩ := m
    obtain ⟨h1, h2, h3, h4⟩ := hm
    simp only at h1 h2 h3 h4
    subst h1 h2 h3
    rcases place with ⟨a, b⟩ | t
    · cases a with
      | false =>
        cases b with
        | false =>
          simp only at h4
          subst h4
          have hst : step d lim { pl := 0, la := la, le := le, tab := tab, asks := asks, out := mo, pos := pos } = thenS (headBits d pos) mo (headS { pl := 0, la := la, le := le, tab := tab, asks := asks, out := mo, pos := pos }) := rfl
          have hgo : goOn d lim { place := .inl (false, false), last := la, out := mo } pos = (headBits d pos).bind fun ak p2 =>
              if ak.2 = 0 then .ok ((.inl { place := .inl (false, true), last := ak.1 == 1, out := mo }), p2)
              else if ak.2 = 1 then .ok ((.inl { place := .inr fixed, last := ak.1 == 1, out := mo }), p2)
              else if ak.2 = 2 then .ok ((.inl { place := .inl (true, false), last := ak.1 == 1, out := mo }), p2)
              else .error 3 := by
            unfold goOn headBits
            simp only
            cases num d 1 pos with
            | error k => rfl
            | ok x =>
              obtain ⟨a, p1⟩ := x
              simp only [Out.bind]
              cases num d 2 p1 with
              | error k => rfl
              | ok x => rfl
          cases hh : headBits d pos with
          | error k =>
            rw [hh] at hst hgo
            have hk : k ≠ 0 := ((nz_num d 1 pos).bind (fun a q => (nz_num d 2 q).bind (fun _ _ => NZ.leaf _))) k hh
            rw [iter_bad (k := k) hgo, endOf_bad hst hk]
          | ok x =>
            obtain ⟨ak, q⟩ := x
            have hq := headBits_ok hh
            rw [hh] at hst hgo
            simp only [Out.bind] at hgo
            simp only [thenS, headS] at hst
            by_cases k0 : ak.2 = 0
            · rw [if_pos k0] at hst hgo
              rw [iter_more hgo hq.1 hq.2, endOf_ok hst hp]
              exact ih _ q _ hq.1 hq.2 ⟨rfl, rfl, rfl, rfl⟩
            rw [if_neg k0] at hst hgo
            by_cases k1 : ak.2 = 1
            · rw [if_pos k1] at hst hgo
              rw [iter_more hgo hq.1 hq.2, endOf_ok hst hp]
              exact ih _ q _ hq.1 hq.2 ⟨rfl, rfl, rfl, rfl, rfl⟩
            rw [if_neg k1] at hst hgo
            by_cases k2 : ak.2 = 2
            · rw [if_pos k2] at hst hgo
              rw [iter_more hgo hq.1 hq.2, endOf_ok hst hp]
              exact ih _ q _ hq.1 hq.2 ⟨rfl, rfl, rfl, rfl⟩
            rw [if_neg k2] at hst hgo
            rw [iter_bad hgo, endOf_bad hst (by omega)]
        | true =>
          simp only at h4
          subst h4
          have hst : step d lim { pl := 1, la := la, le := le, tab := tab, asks := asks, out := mo, pos := pos } = thenS (sizes d pos) mo fun n q => .ok { pl := 2, la := la, le := n, tab := tab, asks := asks, out := mo, pos := q } := rfl
          have hgo : goOn d lim { place := .inl (false, true), last := la, out := mo } pos = (stored d lim mo pos).bind fun o p1 => .ok ((.inl { place := ended la, last := la, out := o }), p1) := rfl
          have hE : endOf d lim { pl := 1, la := la, le := le, tab := tab, asks := asks, out := mo, pos := pos } = (stored d lim mo pos).bind fun o q => endOf d lim { pl := if la then 5 else 0, la := la, le := 0, tab := none, asks := asks, out := o, pos := q } := by
            rw [stored_parts]
            cases hz : sizes d pos with
            | error k => rw [hz] at hst; rw [endOf_bad hst (sizes_bad hz)]; rfl
            | ok x =>
              obtain ⟨n, q⟩ := x
              rw [hz] at hst
              rw [endOf_ok hst hp]
              exact bytes_end d lim n _ rfl rfl (sizes_ok hz).2
          rw [hE]
          cases hs : stored d lim mo pos with
          | error k => rw [hs] at hgo; exact iter_bad hgo
          | ok x =>
            obtain ⟨o, q⟩ := x
            have hq := stored_more hs
            rw [hs] at hgo
            rw [iter_more hgo hq.1 hq.2]
            exact ih _ q _ hq.1 hq.2 (at_over rfl rfl rfl rfl)
      | true =>
        cases b with
        | false =>
          simp only at h4
          subst h4
          have hst : step d lim { pl := 3, la := la, le := le, tab := tab, asks := asks, out := mo, pos := pos } = thenS (keys d pos) mo fun l q => .ok { pl := 4, la := la, le := le, tab := some (makeTable l), asks := asks ++ [l], out := mo, pos := q } := rfl
          have hgo : goOn d lim { place := .inl (true, false), last := la, out := mo } pos = (codes d pos).bind fun t p1 => (syms d t lim mo p1).bind fun o p2 => .ok ((.inl { place := ended la, last := la, out := o }), p2) := rfl
          rw [codes_keys] at hgo
          cases hz : keys d pos with
          | error k => rw [hz] at hst hgo; rw [endOf_bad hst (nz_keys d pos k hz)]; exact iter_bad hgo
          | ok x =>
            obtain ⟨l, q⟩ := x
            have hq := keys_ok hz
            rw [hz] at hst hgo
            simp only [Out.bind] at hgo
            rw [endOf_ok hst hp, syms_end d lim (makeTable l) _ _ (Nat.le_refl _) rfl rfl hq.2]
            simp only
            cases hs : syms d (makeTable l) lim mo q with
            | error k => rw [hs] at hgo; exact iter_bad hgo
            | ok x =>
              obtain ⟨o, q2⟩ := x
              have hq2 := syms_more hs hq.2
              rw [hs] at hgo
              rw [iter_more hgo (by omega) hq2.2]
              exact ih _ q2 _ (by omega) hq2.2 (at_over rfl rfl rfl rfl)
        | true =>
          simp only at h4
          subst h4
          rw [endOf_end rfl]
          exact iter_end rfl
    · simp only at h4
      obtain ⟨h4, h5⟩ := h4
      subst h4 h5
      have hgo : goOn d lim { place := .inr t, last := la, out := mo } pos = (syms d t lim mo pos).bind fun o p1 => .ok ((.inl { place := ended la, last := la, out := o }), p1) := rfl
      rw [syms_end d lim t _ _ (Nat.le_refl _) rfl rfl hp]
      simp only
      cases hs : syms d t lim mo pos with
      | error k => rw [hs] at hgo; exact iter_bad hgo
      | ok x =>
        obtain ⟨o, q2⟩ := x
        have hq2 := syms_more hs hp
        rw [hs] at hgo
        rw [iter_more hgo hq2.1 hq2.2]
        exact ih _ q2 _ hq2.1 hq2.2 (at_over rfl rfl rfl rfl)
  intro n
  induction n with
  | zero => intro s p m hn hm hp; exact key s p m hm hp (fun s' q m' h1 h2 _ => by omega)
  | succ n ih => intro s p m hn hm hp; exact key s p m hm hp (fun s' q m' h1 h2 hm' => ih s' q m' (by omega) hm' h2)

/-- The reader by parts and the machine of steps come to the same. -/
theorem read_final (d : List UInt8) (lim : Nat) : read d lim = endOf d lim M.start :=
  read_at d lim _ _ 0 M.start (Nat.le_refl _) ⟨rfl, rfl, rfl, rfl⟩ (Nat.zero_le _)
end Gz
end Go.Proofs.YtjjjlilflbddoaaDoor
