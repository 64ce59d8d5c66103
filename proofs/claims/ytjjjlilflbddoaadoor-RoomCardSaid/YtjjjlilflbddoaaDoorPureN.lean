import Derived.Test.YtjjjlilflbddoaaDoorPureM
/-
  The machine's last state: it is reached by every road, more data lead on from it, and bytes that were passed do not matter.
-/
namespace Go.Proofs.YtjjjlilflbddoaaDoor
namespace Gz

theorem bind_ok {α β : Type} {r : Out α} {f : α → Nat → Out β} {b : β} {q : Nat} (h : r.bind f = .ok (b, q)) : ∃ a p, r = .ok (a, p) ∧ f a p = .ok (b, q) := by
  cases r with
  | error k => cases h
  | ok okk => obtain ⟨a, p⟩ := okk; exact ⟨a, p, rfl, h⟩
theorem thenS_ok {α : Type} {r : Out α} {o : List UInt8} {f : α → Nat → Step} {m : M} (h : thenS r o f = .ok m) : ∃ a p, r = .ok (a, p) ∧ f a p = .ok m := by
  cases r with
  | error k => cases h
  | ok okk => obtain ⟨a, p⟩ := okk; exact ⟨a, p, rfl, h⟩
theorem headBits_ok {d : List UInt8} {p q : Nat} {x : Nat × Nat} (h : headBits d p = .ok (x, q)) : p < q ∧ q ≤ 8 * d.length := by
  obtain ⟨a, p1, h1, h⟩ := bind_ok h
  obtain ⟨k, p2, h2, h⟩ := bind_ok h
  have e1 := num_ok h1
  have e2 := num_ok h2
  cases h
  omega
theorem sizes_ok {d : List UInt8} {p q n : Nat} (h : sizes d p = .ok (n, q)) : p < q ∧ q ≤ 8 * d.length := by
  obtain ⟨a, p1, h1, h⟩ := bind_ok h
  obtain ⟨k, p2, h2, h⟩ := bind_ok h
  have e1 := num_ok h1
  have e2 := num_ok h2
  split at h
  · cases h
  · cases h; omega
theorem farBits_ok {d : List UInt8} {t : Table} {s p q : Nat} {x : Nat × Nat} (h : farBits d t s p = .ok (x, q)) : p ≤ q ∧ q ≤ 8 * d.length := by
  obtain ⟨a, p1, h1, h⟩ := bind_ok h
  obtain ⟨k, p2, h2, h⟩ := bind_ok h
  have e1 := num_ok h1
  have e2 := dist_ok h2
  cases h
  omega
theorem codes_keys (d : List UInt8) (p : Nat) : codes d p = (keys d p).bind fun l q => .ok ((makeTable l), q) := by
  unfold codes keys
  cases num d 5 p with
  | error k => rfl
  | ok x =>
    obtain ⟨a, p1⟩ := x
    simp only [Out.bind]
    cases num d 5 p1 with
    | error k => rfl
    | ok x =>
      obtain ⟨b, p2⟩ := x
      simp only
      cases num d 4 p2 with
      | error k => rfl
      | ok x =>
        obtain ⟨c, p3⟩ := x
        simp only
        split
        · rfl
        · cases telling d (c + 4) p3 with
          | error k => rfl
          | ok x =>
            obtain ⟨tc, p4⟩ := x
            simp only
            cases told d tc (a + 257 + (b + 1)) p4 with
            | error k => rfl
            | ok x =>
              obtain ⟨l, p5⟩ := x
              simp only
              split <;> rfl
theorem keys_ok {d : List UInt8} {p q : Nat} {l : List Nat} (h : keys d p = .ok (l, q)) : p < q ∧ q ≤ 8 * d.length :=
  codes_more (t := makeTable l) (by rw [codes_keys, h]; rfl)

/-- How many steps there are at most. -/
def rank (d : List UInt8) (m : M) : Nat := 2 * (8 * d.length - m.pos) + (if m.pl = 2 ∧ m.le = 0 then 1 else 0)
theorem rank_le (d : List UInt8) (m : M) : rank d m ≤ 2 * (8 * d.length - m.pos) + 1 := by unfold rank; split <;> omega
theorem rank_far {d : List UInt8} {m m' : M} (h : m.pos < m'.pos) (h2 : m'.pos ≤ 8 * d.length) : rank d m' < rank d m := by
  have := rank_le d m'
  have : 2 * (8 * d.length - m.pos) ≤ rank d m := by unfold rank; omega
  omega

theorem obeyS_ok {d : List UInt8} {lim : Nat} {t : Table} {m m' : M} {s p : Nat} (h : obeyS d lim t m s p = .ok m') (hp : p ≤ 8 * d.length) : p ≤ m'.pos ∧ m'.pos ≤ 8 * d.length := by
  unfold obeyS at h
  split at h
  · split at h
    · cases h
    · cases h; exact ⟨Nat.le_refl _, hp⟩
  split at h
  · cases h; exact ⟨Nat.le_refl _, hp⟩
  split at h
  · obtain ⟨x, q, h1, h⟩ := thenS_ok h
    have := farBits_ok h1
    unfold copyS at h
    split at h
    · cases h
    split at h
    · cases h
    · cases h; exact this
  · cases h

theorem step_less {d : List UInt8} {lim : Nat} {m m' : M} (h : step d lim m = .ok m') (hp : m.pos ≤ 8 * d.length) : m.pos ≤ m'.pos ∧ m'.pos ≤ 8 * d.length ∧ rank d m' < rank d m := by
  have far : m.pos < m'.pos ∧ m'.pos ≤ 8 * d.length → m.pos ≤ m'.pos ∧ m'.pos ≤ 8 * d.length ∧ rank d m' < rank d m := fun h => ⟨by omega, h.2, rank_far h.1 h.2⟩
  unfold step at h
  split at h
  · obtain ⟨x, q, h1, h⟩ := thenS_ok h
    have e := headBits_ok h1
    unfold headS at h
    split at h
    · cases h; exact far e
    split at h
    · cases h; exact far e
    split at h
    · cases h; exact far e
    · cases h
  · obtain ⟨x, q, h1, h⟩ := thenS_ok h
    have e := sizes_ok h1
    cases h; exact far e
  · rename_i hpl
    split at h
    · rename_i hle
      cases h
      refine ⟨Nat.le_refl _, hp, ?_⟩
      have r1 : rank d m = 2 * (8 * d.length - m.pos) + 1 := by unfold rank; rw [if_pos ⟨hpl, hle⟩]
      have h5 : m.over.pl ≠ 2 := by
        show (if m.la then 5 else 0) ≠ 2
        cases m.la <;> decide
      have r0 : rank d m.over = 2 * (8 * d.length - m.pos) + 0 := by unfold rank; rw [if_neg (fun hh => h5 hh.1)]; rfl
      omega
    · obtain ⟨x, q, h1, h⟩ := thenS_ok h
      have e := num_ok h1
      unfold byteS at h
      split at h
      · cases h
      · cases h; exact far ⟨by show m.pos < q; omega, e.2⟩
  · obtain ⟨x, q, h1, h⟩ := thenS_ok h
    have e := keys_ok h1
    cases h; exact far e
  · split at h
    · cases h
    · obtain ⟨x, q, h1, h⟩ := thenS_ok h
      have e := sym_ok h1
      have e2 := obeyS_ok h e.2
      exact far ⟨by omega, e2.2⟩
  · cases h

theorem steps_any (d : List UInt8) (lim : Nat) : ∀ (n n' : Nat) (m : M), rank d m ≤ n → rank d m ≤ n' → m.pos ≤ 8 * d.length → steps d lim n m = steps d lim n' m
  | 0, 0, _, _, _, _ => rfl
  | 0, n' + 1, m, h, _, hp => by
    rw [steps, steps]
    cases hs : step d lim m with
    | error e => rfl
    | ok m' => have := (step_less hs hp).2.2; omega
  | n + 1, 0, m, _, h, hp => by
    rw [steps, steps]
    cases hs : step d lim m with
    | error e => rfl
    | ok m' => have := (step_less hs hp).2.2; omega
  | n + 1, n' + 1, m, h, h', hp => by
    rw [steps, steps]
    cases hs : step d lim m with
    | error e => rfl
    | ok m' =>
      have e := step_less hs hp
      exact steps_any d lim n n' m' (by omega) (by omega) e.2.1

/-- Where all the steps that can be made lead. -/
def final (d : List UInt8) (lim : Nat) (m : M) : M := steps d lim (rank d m) m

theorem final_ok {d : List UInt8} {lim : Nat} {m m' : M} (h : step d lim m = .ok m') (hp : m.pos ≤ 8 * d.length) : final d lim m = final d lim m' := by
  have e := step_less h hp
  obtain ⟨n, hn⟩ : ∃ n, rank d m = n + 1 := ⟨rank d m - 1, by omega⟩
  unfold final
  rw [hn, steps, h]
  exact steps_any d lim n _ m' (by omega) (Nat.le_refl _) e.2.1
theorem final_bad {d : List UInt8} {lim : Nat} {m : M} {e : Nat × List UInt8} (h : step d lim m = .error e) : final d lim m = m := by
  unfold final
  cases rank d m with
  | zero => rfl
  | succ n => rw [steps, h]

/-- From the last state back to the first. -/
theorem final_ind {d : List UInt8} {lim : Nat} {P : M → Prop} (hb : ∀ m e, m.pos ≤ 8 * d.length → step d lim m = .error e → P m) (ho : ∀ m m', m.pos ≤ 8 * d.length → step d lim m = .ok m' → P m' → P m) : ∀ m, m.pos ≤ 8 * d.length → P m := by
  have key : ∀ n m, rank d m ≤ n → m.pos ≤ 8 * d.length → P m := by
    intro n
    induction n with
    | zero =>
      intro m hr hp
      cases hs : step d lim m with
      | error e => exact hb m e hp hs
      | ok m' => have := (step_less hs hp).2.2; omega
    | succ n ih =>
      intro m hr hp
      cases hs : step d lim m with
      | error e => exact hb m e hp hs
      | ok m' => have e := step_less hs hp; exact ho m m' hp hs (ih m' (by omega) e.2.1)
  exact fun m hp => key _ m (Nat.le_refl _) hp

theorem final_end (d : List UInt8) (lim : Nat) : ∀ m, m.pos ≤ 8 * d.length → ∃ k o, step d lim (final d lim m) = .error (k, o) :=
  final_ind (fun m e _ h => ⟨e.1, e.2, by rw [final_bad h, h]⟩) (fun m m' hp h ih => by rw [final_ok h hp]; exact ih)
theorem final_pos (d : List UInt8) (lim : Nat) : ∀ m, m.pos ≤ 8 * d.length → m.pos ≤ (final d lim m).pos ∧ (final d lim m).pos ≤ 8 * d.length :=
  final_ind (fun m e hp h => by rw [final_bad h]; exact ⟨Nat.le_refl _, hp⟩) (fun m m' hp h ih => by rw [final_ok h hp]; have := step_less h hp; exact ⟨by omega, ih.2⟩)

/-- More data lead on from there. -/
theorem final_app (d e : List UInt8) (lim : Nat) : ∀ m, m.pos ≤ 8 * d.length → final (d ++ e) lim m = final (d ++ e) lim (final d lim m) :=
  final_ind (fun m x _ h => by rw [final_bad h]) (fun m m' hp h ih => by
    rw [final_ok h hp, ← ih]
    exact final_ok (step_app d e lim h) (by rw [List.length_append]; omega))
/-- Where it ended with a fault, or at the end, more data change nothing. -/
theorem final_app_bad (d e : List UInt8) (lim : Nat) {m : M} {k : Nat} {o : List UInt8} (hp : m.pos ≤ 8 * d.length) (h : step d lim (final d lim m) = .error (k, o)) (hk : k ≠ 2) :
    final (d ++ e) lim m = final d lim m ∧ step (d ++ e) lim (final (d ++ e) lim m) = .error (k, o) := by
  have h1 := step_app_bad d e lim h hk
  have h2 : final (d ++ e) lim m = final d lim m := by rw [final_app d e lim m hp]; exact final_bad h1
  exact ⟨h2, by rw [h2]; exact h1⟩
/-- Bytes that were passed do not matter. -/
theorem final_drop (d : List UInt8) (n lim : Nat) (hn : n ≤ d.length) : ∀ m, m.pos ≤ 8 * (d.drop n).length → final d lim (m.by (8 * n)) = (final (d.drop n) lim m).by (8 * n) :=
  final_ind (fun m x _ h => by rw [final_bad h]; exact final_bad (step_drop_bad d n lim hn (k := x.1) (o := x.2) h)) (fun m m' hp h ih => by
    rw [final_ok h hp, ← ih]
    exact final_ok (step_drop d n lim hn h) (by rw [List.length_drop] at hp; show m.pos + 8 * n ≤ _; omega))

/-! What was put out only grows. -/
theorem copyO_grow (lim far : Nat) : ∀ n out, ∃ x, copyO lim far n out = out ++ x
  | 0, out => ⟨[], by rw [copyO, List.append_nil]⟩
  | n + 1, out => by
    rw [copyO]
    split
    · exact ⟨[], by rw [List.append_nil]⟩
    · obtain ⟨x, hx⟩ := copyO_grow lim far n (out ++ [out.getD (out.length - far) 0])
      exact ⟨[out.getD (out.length - far) 0] ++ x, by rw [hx, List.append_assoc]⟩
end Gz
end Go.Proofs.YtjjjlilflbddoaaDoor
