import Derived.Test.YtjjjlilflbddoaaDoorPure2
namespace Go.Proofs.YtjjjlilflbddoaaDoor

theorem iter_inv {σ ρ : Type} {N : Nat} {step : σ → Nat → Gz.Out (σ ⊕ ρ)} (P : σ → Nat → Prop) (R : ρ → Nat → Prop)
    (hs : ∀ s p s' q, P s p → step s p = .ok ((.inl s'), q) → P s' q) (he : ∀ s p r q, P s p → step s p = .ok ((.inr r), q) → R r q) :
    ∀ (n : Nat) (s : σ) (p : Nat), N - p ≤ n → P s p → ∀ r q, Gz.iter N step s p = .ok (r, q) → R r q := by
  intro n
  induction n with
  | zero =>
    intro s p hn hp r q h
    rw [Gz.iter_eq] at h
    cases hst : step s p with
    | error k => rw [hst] at h; cases h
    | ok okk =>
      obtain ⟨x, q'⟩ := okk
      rw [hst] at h
      cases x with
      | inr r' => injection h with hpp; injection hpp with h1 h2; subst h1; subst h2; exact he s p r' q' hp hst
      | inl s' =>
        simp only at h
        split at h
        · rename_i hpq; omega
        · cases h
  | succ n ih =>
    intro s p hn hp r q h
    rw [Gz.iter_eq] at h
    cases hst : step s p with
    | error k => rw [hst] at h; cases h
    | ok okk =>
      obtain ⟨x, q'⟩ := okk
      rw [hst] at h
      cases x with
      | inr r' => injection h with hpp; injection hpp with h1 h2; subst h1; subst h2; exact he s p r' q' hp hst
      | inl s' =>
        simp only at h
        split at h
        · rename_i hpq; exact ih s' q' (by omega) (hs s p s' q' hp hst) r q h
        · cases h
theorem told_len {d : List UInt8} {c : Gz.Code} {count p q : Nat} {l : List Nat} (h : Gz.told d c count p = .ok (l, q)) : l.length = count := by
  refine iter_inv (P := fun l _ => l.length ≤ count) (R := fun l _ => l.length = count) ?_ ?_ (8 * d.length) [] p (by omega) (Nat.zero_le _) l q h
  · intro l p l' q hl hst
    unfold Gz.toldStep at hst
    split at hst
    · cases hs : Gz.sym d c p with
      | error k => rw [hs] at hst; cases hst
      | ok okk =>
        obtain ⟨sy, p1⟩ := okk
        rw [hs] at hst
        simp only [Gz.Out.bind] at hst
        cases hr : Gz.run d sy p1 with
        | error k => rw [hr] at hst; cases hst
        | ok okk =>
          obtain ⟨x, p2⟩ := okk
          rw [hr] at hst
          simp only at hst
          split at hst
          · cases hst
          · split at hst
            · cases hst
            · injection hst with hpp; injection hpp with h1 h2; injection h1 with h1; subst h1; simp; omega
    · injection hst with hpp; injection hpp with h1 h2; cases h1
  · intro l p r q hl hst
    unfold Gz.toldStep at hst
    split at hst
    · cases hs : Gz.sym d c p with
      | error k => rw [hs] at hst; cases hst
      | ok okk =>
        obtain ⟨sy, p1⟩ := okk
        rw [hs] at hst
        simp only [Gz.Out.bind] at hst
        cases hr : Gz.run d sy p1 with
        | error k => rw [hr] at hst; cases hst
        | ok okk =>
          obtain ⟨x, p2⟩ := okk
          rw [hr] at hst
          simp only at hst
          split at hst
          · cases hst
          · split at hst
            · cases hst
            · injection hst with hpp; injection hpp with h1 h2; cases h1
    · injection hst with hpp; injection hpp with h1 h2; injection h1 with h1; subst h1; omega
theorem tellGo_ok {d : List UInt8} : ∀ {n i p q : Nat} {l r : List Nat}, Gz.tellGo d n i l p = .ok (r, q) → p ≤ 8 * d.length → p ≤ q ∧ q ≤ 8 * d.length
  | 0, i, p, q, l, r, h, hp => by injection h with hpp; injection hpp with h1 h2; omega
  | n + 1, i, p, q, l, r, h, hp => by
    unfold Gz.tellGo at h
    cases hm : Gz.num d 3 p with
    | error k => rw [hm] at h; cases h
    | ok okk =>
      obtain ⟨v, p1⟩ := okk
      have h1 := num_ok hm
      rw [hm] at h
      have := tellGo_ok h h1.2
      omega
theorem telling_ok {d : List UInt8} {n p q : Nat} {c : Gz.Code} (h : Gz.telling d n p = .ok (c, q)) (hp : p ≤ 8 * d.length) : q ≤ 8 * d.length := by
  unfold Gz.telling at h
  cases hm : Gz.tellGo d n 0 (List.replicate 19 0) p with
  | error k => rw [hm] at h; cases h
  | ok okk =>
    obtain ⟨l, p1⟩ := okk
    have h1 := tellGo_ok hm hp
    rw [hm] at h
    simp only [Gz.Out.bind] at h
    split at h
    · injection h with hpp; injection hpp with _ h2; omega
    · cases h
theorem len_wide (l : List Nat) (sy ct : Nat) (h : l.length = ct) (h1 : sy ≤ 288) (h2 : sy ≤ ct) (h3 : ct ≤ sy + 32) : (Gz.wide (l.take sy) 288 ++ Gz.wide (l.drop sy) 32).length = 320 := by
  simp [Gz.wide]; omega
theorem lens_append {a b : List Nat} (ha : Lens a) (hb : Lens b) : Lens (a ++ b) := by
  intro i hi
  by_cases h : i < a.length
  · rw [List.getD, List.getElem?_append_left h]; exact ha i h
  · rw [List.getD, List.getElem?_append_right (by omega)]; exact hb (i - a.length) (by simp at hi; omega)
theorem lens_zeros (n : Nat) : Lens (List.replicate n 0) := by
  intro i hi; rw [List.getD, List.getElem?_replicate]; split <;> simp
theorem lens_wide (l : List Nat) (sy : Nat) (h : Lens l) : Lens (Gz.wide (l.take sy) 288 ++ Gz.wide (l.drop sy) 32) :=
  lens_append (lens_append (h.take sy) (lens_zeros _)) (lens_append (h.drop sy) (lens_zeros _))
theorem stored_eq (d : List UInt8) (lim : Nat) (out : List UInt8) (p : Nat) : Gz.stored d lim out p =
    ((Gz.num d 16 (8 * ((p + 7) / 8))).bind fun n p1 => (Gz.num d 16 p1).bind fun m p2 => if m + n ≠ 65535 then (Except.error 4 : Gz.Out Nat) else .ok (n, p2)).bind fun n p2 => Gz.bytes d lim n out p2 := by
  unfold Gz.stored
  cases Gz.num d 16 (8 * ((p + 7) / 8)) with
  | error k => rfl
  | ok okk =>
    obtain ⟨n, p1⟩ := okk
    simp only [Gz.Out.bind]
    cases Gz.num d 16 p1 with
    | error k => rfl
    | ok okk => obtain ⟨m, p2⟩ := okk; simp only; split <;> rfl
theorem told_ok {d : List UInt8} {c : Gz.Code} {count p q : Nat} {l : List Nat} (h : Gz.told d c count p = .ok (l, q)) (hp : p ≤ 8 * d.length) : p ≤ q ∧ q ≤ 8 * d.length := by
  refine iter_inv (P := fun _ x => p ≤ x ∧ x ≤ 8 * d.length) (R := fun _ x => p ≤ x ∧ x ≤ 8 * d.length) ?_ ?_ (8 * d.length) [] p (by omega) ⟨Nat.le_refl _, hp⟩ l q h
  · intro l x l' y hl hst
    unfold Gz.toldStep at hst
    split at hst
    · cases hs : Gz.sym d c x with
      | error k => rw [hs] at hst; cases hst
      | ok okk =>
        obtain ⟨sy, p1⟩ := okk
        have h1 := sym_ok hs
        rw [hs] at hst
        simp only [Gz.Out.bind] at hst
        cases hr : Gz.run d sy p1 with
        | error k => rw [hr] at hst; cases hst
        | ok okk =>
          obtain ⟨z, p2⟩ := okk
          have h2 := run_ok hr h1.2
          rw [hr] at hst
          simp only at hst
          split at hst
          · cases hst
          · split at hst
            · cases hst
            · injection hst with hpp; injection hpp with h3 h4; omega
    · injection hst with hpp; injection hpp with h1 h2; cases h1
  · intro l x r y hl hst
    unfold Gz.toldStep at hst
    split at hst
    · cases hs : Gz.sym d c x with
      | error k => rw [hs] at hst; cases hst
      | ok okk =>
        obtain ⟨sy, p1⟩ := okk
        rw [hs] at hst
        simp only [Gz.Out.bind] at hst
        cases hr : Gz.run d sy p1 with
        | error k => rw [hr] at hst; cases hst
        | ok okk =>
          obtain ⟨z, p2⟩ := okk
          rw [hr] at hst
          simp only at hst
          split at hst
          · cases hst
          · split at hst
            · cases hst
            · injection hst with hpp; injection hpp with h1 h2; cases h1
    · injection hst with hpp; injection hpp with h1 h2; omega
theorem telling_ge {d : List UInt8} {n p q : Nat} {c : Gz.Code} (h : Gz.telling d n p = .ok (c, q)) (hp : p ≤ 8 * d.length) : p ≤ q := by
  unfold Gz.telling at h
  cases hm : Gz.tellGo d n 0 (List.replicate 19 0) p with
  | error k => rw [hm] at h; cases h
  | ok okk =>
    obtain ⟨l, p1⟩ := okk
    have h1 := tellGo_ok hm hp
    rw [hm] at h
    simp only [Gz.Out.bind] at h
    split at h
    · injection h with hpp; injection hpp with _ h2; omega
    · cases h
theorem codes_more {d : List UInt8} {p q : Nat} {t : Gz.Table} (h : Gz.codes d p = .ok (t, q)) : p < q ∧ q ≤ 8 * d.length := by
  unfold Gz.codes at h
  cases h1 : Gz.num d 5 p with
  | error k => rw [h1] at h; cases h
  | ok okk =>
    obtain ⟨a, p1⟩ := okk
    have e1 := num_ok h1
    rw [h1] at h
    simp only [Gz.Out.bind] at h
    cases h2 : Gz.num d 5 p1 with
    | error k => rw [h2] at h; cases h
    | ok okk =>
      obtain ⟨b, p2⟩ := okk
      have e2 := num_ok h2
      rw [h2] at h
      simp only at h
      cases h3 : Gz.num d 4 p2 with
      | error k => rw [h3] at h; cases h
      | ok okk =>
        obtain ⟨c, p3⟩ := okk
        have e3 := num_ok h3
        rw [h3] at h
        simp only at h
        split at h
        · cases h
        · cases h4 : Gz.telling d (c + 4) p3 with
          | error k => rw [h4] at h; cases h
          | ok okk =>
            obtain ⟨tc, p4⟩ := okk
            have e4 := telling_ok h4 e3.2
            have e5 := telling_ge h4 e3.2
            rw [h4] at h
            simp only at h
            cases h6 : Gz.told d tc (a + 257 + (b + 1)) p4 with
            | error k => rw [h6] at h; cases h
            | ok okk =>
              obtain ⟨l, p5⟩ := okk
              have e6 := told_ok h6 e4
              rw [h6] at h
              simp only at h
              split at h
              · injection h with hpp; injection hpp with _ h7; omega
              · cases h
theorem codes_ok {d : List UInt8} {p q : Nat} {t : Gz.Table} (h : Gz.codes d p = .ok (t, q)) : q ≤ 8 * d.length := (codes_more h).2
theorem syms_more {d : List UInt8} {t : Gz.Table} {lim p q : Nat} {out o : List UInt8} (h : Gz.syms d t lim out p = .ok (o, q)) (hp : p ≤ 8 * d.length) : p < q ∧ q ≤ 8 * d.length := by
  have key : ∀ (out : List UInt8) (x : Nat) (z : List UInt8 ⊕ List UInt8) (y : Nat), x ≤ 8 * d.length → Gz.symsStep d t lim out x = .ok (z, y) → x < y ∧ y ≤ 8 * d.length := by
    intro out x z y hx hst
    unfold Gz.symsStep at hst
    cases hs : Gz.sym d t.syms x with
    | error k => rw [hs] at hst; cases hst
    | ok okk =>
      obtain ⟨sy, p1⟩ := okk
      have h1 := sym_ok hs
      rw [hs] at hst
      simp only [Gz.Out.bind] at hst
      cases ho : Gz.obey d t lim sy out p1 with
      | error k => rw [ho] at hst; cases hst
      | ok okk =>
        obtain ⟨v, p2⟩ := okk
        have h2 := obey_ok ho h1.2
        rw [ho] at hst
        injection hst with hpp; injection hpp with _ h3; omega
  unfold Gz.syms at h
  rw [Gz.iter_eq] at h
  cases hst : Gz.symsStep d t lim out p with
  | error k => rw [hst] at h; cases h
  | ok okk =>
    obtain ⟨z, y⟩ := okk
    have hk := key out p z y hp hst
    rw [hst] at h
    cases z with
    | inr r => injection h with hpp; injection hpp with _ h2; omega
    | inl o2 =>
      simp only at h
      rw [if_pos hk] at h
      have := iter_inv (P := fun _ x => y ≤ x ∧ x ≤ 8 * d.length) (R := fun _ x => y ≤ x ∧ x ≤ 8 * d.length)
        (fun s x s' q hx hst => by have := key s x _ q hx.2 hst; omega) (fun s x r q hx hst => by have := key s x _ q hx.2 hst; omega) (8 * d.length) o2 y (by omega) ⟨Nat.le_refl _, hk.2⟩ o q h
      omega
theorem stored_more {d : List UInt8} {lim p q : Nat} {out o : List UInt8} (h : Gz.stored d lim out p = .ok (o, q)) : p < q ∧ q ≤ 8 * d.length := by
  unfold Gz.stored at h
  cases h1 : Gz.num d 16 (8 * ((p + 7) / 8)) with
  | error k => rw [h1] at h; cases h
  | ok okk =>
    obtain ⟨n, p1⟩ := okk
    have e1 := num_ok h1
    rw [h1] at h
    simp only [Gz.Out.bind] at h
    cases h2 : Gz.num d 16 p1 with
    | error k => rw [h2] at h; cases h
    | ok okk =>
      obtain ⟨m, p2⟩ := okk
      have e2 := num_ok h2
      rw [h2] at h
      simp only at h
      split at h
      · cases h
      · have := bytes_ok h e2.2; omega
theorem goOn_more {d : List UInt8} {lim p q : Nat} {st : Gz.St} {x : Gz.St ⊕ List UInt8} (h : Gz.goOn d lim st p = .ok (x, q)) (hp : p ≤ 8 * d.length) (hf : st.place ≠ .inl (true, true)) : p < q ∧ q ≤ 8 * d.length := by
  obtain ⟨place, last, out⟩ := st
  rcases place with ⟨⟨⟩ | ⟨⟩, ⟨⟩ | ⟨⟩⟩ | t
  rotate_left 3
  · exact absurd rfl hf
  rotate_left 1
  · skip
    unfold Gz.goOn at h
    simp only at h
    cases h1 : Gz.num d 1 p with
    | error k => rw [h1] at h; cases h
    | ok okk =>
      obtain ⟨a, p1⟩ := okk
      have e1 := num_ok h1
      rw [h1] at h
      simp only [Gz.Out.bind] at h
      cases h2 : Gz.num d 2 p1 with
      | error k => rw [h2] at h; cases h
      | ok okk =>
        obtain ⟨k, p2⟩ := okk
        have e2 := num_ok h2
        rw [h2] at h
        simp only at h
        split at h
        · injection h with hpp; injection hpp with _ h3; omega
        · split at h
          · injection h with hpp; injection hpp with _ h3; omega
          · split at h
            · injection h with hpp; injection hpp with _ h3; omega
            · cases h
  · skip
    unfold Gz.goOn at h
    simp only at h
    cases h1 : Gz.stored d lim out p with
    | error k => rw [h1] at h; cases h
    | ok okk => obtain ⟨o, p1⟩ := okk; have e1 := stored_more h1; rw [h1] at h; injection h with hpp; injection hpp with _ h3; omega
  · skip
    unfold Gz.goOn at h
    simp only at h
    cases h1 : Gz.codes d p with
    | error k => rw [h1] at h; cases h
    | ok okk =>
      obtain ⟨t, p1⟩ := okk
      have e1 := codes_more h1
      rw [h1] at h
      simp only [Gz.Out.bind] at h
      cases h2 : Gz.syms d t lim out p1 with
      | error k => rw [h2] at h; cases h
      | ok okk => obtain ⟨o, p2⟩ := okk; have e2 := syms_more h2 e1.2; rw [h2] at h; injection h with hpp; injection hpp with _ h3; omega
  · skip
    unfold Gz.goOn at h
    simp only at h
    cases h1 : Gz.syms d t lim out p with
    | error k => rw [h1] at h; cases h
    | ok okk => obtain ⟨o, p1⟩ := okk; have e1 := syms_more h1 hp; rw [h1] at h; injection h with hpp; injection hpp with _ h3; omega
end Go.Proofs.YtjjjlilflbddoaaDoor
