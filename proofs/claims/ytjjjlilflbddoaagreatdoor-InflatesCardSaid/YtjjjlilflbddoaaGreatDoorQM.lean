import Derived.Test.YtjjjlilflbddoaaGreatDoorQPure
/-
  The reader as a machine of steps: what Pure says of whole parts, said step by step, with what was put out kept where a step fails.
-/
namespace Go.Proofs.YtjjjlilflbddoaaGreatDoor
namespace Gz

/-- Where a reader stands between two steps. -/
structure M where
  pl : Nat
  la : Bool
  le : Nat
  tab : Option Table
  asks : List (List Nat)
  out : List UInt8
  pos : Nat

/-- A step: where the reader stands behind it, or the number of what was met (0: there is no more) and all that was put out then. -/
abbrev Step : Type := Except (Nat × List UInt8) M

def M.start : M := { pl := 0, la := false, le := 0, tab := none, asks := [], out := [], pos := 0 }
def M.over (m : M) : M := { m with pl := if m.la then 5 else 0, tab := none }

def thenS {α : Type} (r : Out α) (out : List UInt8) (f : α → Nat → Step) : Step :=
  match r with
  | .error k => .error (k, out)
  | .ok (a, q) => f a q

def headBits (d : List UInt8) (p : Nat) : Out (Nat × Nat) := (num d 1 p).bind fun a p1 => (num d 2 p1).bind fun k p2 => .ok ((a, k), p2)
def sizes (d : List UInt8) (p : Nat) : Out Nat :=
  (num d 16 (8 * ((p + 7) / 8))).bind fun n p1 => (num d 16 p1).bind fun m p2 => if m + n ≠ 65535 then .error 4 else .ok (n, p2)
/-- The lengths of a block of kind 2. -/
def keys (d : List UInt8) (p : Nat) : Out (List Nat) :=
  (num d 5 p).bind fun a p1 => (num d 5 p1).bind fun b p2 => (num d 4 p2).bind fun c p3 =>
    if 286 < a + 257 ∨ 30 < b + 1 then .error 5 else
    (telling d (c + 4) p3).bind fun tc p4 => (told d tc (a + 257 + (b + 1)) p4).bind fun l p5 =>
      if check (wide (l.take (a + 257)) 288 ++ wide (l.drop (a + 257)) 32) then .ok ((wide (l.take (a + 257)) 288 ++ wide (l.drop (a + 257)) 32), p5) else .error 5
def farBits (d : List UInt8) (t : Table) (s p : Nat) : Out (Nat × Nat) := (num d (lenBits s) p).bind fun v p2 => (dist d t.dists p2).bind fun far p3 => .ok ((v, far), p3)

/-- What a copying puts out, the limit met or not. -/
def copyO (lim far : Nat) : Nat → List UInt8 → List UInt8
  | 0, out => out
  | n + 1, out => if lim ≤ out.length then out else copyO lim far n (out ++ [out.getD (out.length - far) 0])

/-- What a repetition has put out in the end, whatever was met. -/
def repO (d : List UInt8) (t : Table) (lim s : Nat) (out : List UInt8) (p : Nat) : List UInt8 :=
  match num d (lenBits s) p with
  | .error _ => out
  | .ok (v, p1) => match dist d t.dists p1 with
    | .error _ => out
    | .ok (far, _) => if out.length < far then out else copyO lim far (lenFrom.getD (s - 257) 0 + v) out

def headS (m : M) (ak : Nat × Nat) (q : Nat) : Step :=
  if ak.2 = 0 then .ok { m with pl := 1, la := ak.1 == 1, pos := q }
  else if ak.2 = 1 then .ok { m with pl := 4, la := ak.1 == 1, tab := some fixed, pos := q }
  else if ak.2 = 2 then .ok { m with pl := 3, la := ak.1 == 1, pos := q }
  else .error (3, m.out)
def byteS (lim : Nat) (m : M) (v q : Nat) : Step :=
  if lim ≤ m.out.length then .error (8, m.out) else .ok { m with le := m.le - 1, out := m.out ++ [UInt8.ofNat v], pos := q }
def copyS (lim s : Nat) (m : M) (vf : Nat × Nat) (q : Nat) : Step :=
  if m.out.length < vf.2 then .error (7, m.out)
  else if copyGo lim vf.2 (lenFrom.getD (s - 257) 0 + vf.1) m.out = none then .error (8, copyO lim vf.2 (lenFrom.getD (s - 257) 0 + vf.1) m.out)
  else .ok { m with out := copyO lim vf.2 (lenFrom.getD (s - 257) 0 + vf.1) m.out, pos := q }
def obeyS (d : List UInt8) (lim : Nat) (t : Table) (m : M) (s p : Nat) : Step :=
  if s < 256 then (if lim ≤ m.out.length then .error (8, m.out) else .ok { m with out := m.out ++ [UInt8.ofNat s], pos := p })
  else if s = 256 then .ok { m.over with pos := p }
  else if s ≤ 285 then thenS (farBits d t s p) m.out (copyS lim s m)
  else .error (6, m.out)

def step (d : List UInt8) (lim : Nat) (m : M) : Step :=
  match m.pl with
  | 0 => thenS (headBits d m.pos) m.out (headS m)
  | 1 => thenS (sizes d m.pos) m.out fun n q => .ok { m with pl := 2, le := n, pos := q }
  | 2 => if m.le = 0 then .ok m.over else thenS (num d 8 m.pos) m.out (byteS lim m)
  | 3 => thenS (keys d m.pos) m.out fun l q => .ok { m with pl := 4, tab := some (makeTable l), asks := m.asks ++ [l], pos := q }
  | 4 => match m.tab with
    | none => .error (99, m.out)
    | some t => thenS (sym d t.syms m.pos) m.out (obeyS d lim t m)
  | _ => .error (0, m.out)

/-- At most n steps. -/
def steps (d : List UInt8) (lim : Nat) : Nat → M → M
  | 0, m => m
  | n + 1, m => match step d lim m with
    | .ok m' => steps d lim n m'
    | .error _ => m

/-! The same bits elsewhere: data d, of which d' hold all bits c further behind, and maybe more (ex: no more). -/

structure Sim {α : Type} (c : Nat) (ex : Prop) (r r' : Out α) : Prop where
  ok : ∀ a q, r = .ok (a, q) → r' = .ok (a, q + c)
  bad : ∀ k, r = .error k → k ≠ 2 ∨ ex → r' = .error k

theorem Sim.bind {α β : Type} {c : Nat} {ex : Prop} {r r' : Out α} {f f' : α → Nat → Out β} (h : Sim c ex r r') (hf : ∀ a q, Sim c ex (f a q) (f' a (q + c))) : Sim c ex (r.bind f) (r'.bind f') := by
  refine ⟨fun b q2 e => ?_, fun k e hk => ?_⟩
  · cases r with
    | error k => cases e
    | ok okk => obtain ⟨a, q⟩ := okk; rw [h.ok a q rfl]; exact (hf a q).ok b q2 e
  · cases r with
    | error k' => cases e; rw [h.bad k rfl hk]; rfl
    | ok okk => obtain ⟨a, q⟩ := okk; rw [h.ok a q rfl]; exact (hf a q).bad k e hk
theorem Sim.leaf {α : Type} {ex : Prop} (c p : Nat) (a : α) : Sim c ex (.ok (a, p)) (.ok (a, p + c)) := ⟨fun _ _ e => by cases e; rfl, fun _ e => by cases e⟩
theorem Sim.error {α : Type} {ex : Prop} (c k : Nat) : Sim (α := α) c ex (.error k) (.error k) := ⟨fun _ _ e => (by cases e), fun _ e _ => e⟩

theorem iter_sim {σ ρ : Type} {c N N' : Nat} {ex : Prop} {step step' : σ → Nat → Out (σ ⊕ ρ)} (hN : N + c ≤ N') (h : ∀ s p, Sim c ex (step s p) (step' s (p + c)))
    (hq : ∀ s p s' q, step s p = .ok (.inl s', q) → q ≤ N) : ∀ n s p, N - p ≤ n → Sim c ex (iter N step s p) (iter N' step' s (p + c)) := by
  have key : ∀ s p, (∀ s' q, p < q → q ≤ N → Sim c ex (iter N step s' q) (iter N' step' s' (q + c))) → Sim c ex (iter N step s p) (iter N' step' s (p + c)) := by
    intro s p ih
    have hs := h s p
    rw [iter_eq, iter_eq N']
    cases hst : step s p with
    | error k => exact ⟨fun _ _ e => (by cases e), fun k' e hk => by cases e; rw [hs.bad k hst hk]⟩
    | ok okk =>
      obtain ⟨x, q⟩ := okk
      rw [hs.ok x q hst]
      cases x with
      | inr r => exact Sim.leaf _ _ _
      | inl s' =>
        have h1 := hq s p s' q hst
        by_cases h2 : p < q
        · simp only
          rw [if_pos ⟨h2, h1⟩, if_pos ⟨by omega, by omega⟩]
          exact ih s' q h2 h1
        · simp only
          rw [if_neg (by omega), if_neg (by omega)]
          exact Sim.error _ _
  intro n
  induction n with
  | zero => intro s p hn; exact key s p (fun s' q h1 h2 => by omega)
  | succ n ih => intro s p hn; exact key s p (fun s' q h1 h2 => ih s' q (by omega))

/-- d' hold the bits of d, c further behind. -/
structure Held (c : Nat) (d d' : List UInt8) : Prop where
  len : 8 * d.length + c ≤ 8 * d'.length
  eight : c % 8 = 0
  bit : ∀ k, k < 8 * d.length → bitv d' (k + c) = bitv d k

theorem val_sim {c : Nat} {d d' : List UInt8} (H : Held c d d') (p : Nat) : ∀ n, p + n ≤ 8 * d.length → val d' (p + c) n = val d p n
  | 0, _ => rfl
  | n + 1, h => by
    rw [val, val, val_sim H p n (by omega)]
    have := H.bit (p + n) (by omega)
    rw [show p + c + n = p + n + c by omega, this]
theorem num_sim {c : Nat} {d d' : List UInt8} (H : Held c d d') (n p : Nat) : Sim c (8 * d.length + c = 8 * d'.length) (num d n p) (num d' n (p + c)) := by
  have hv := val_sim H p n
  have hl := H.len
  unfold num
  by_cases h : p + n ≤ 8 * d.length
  · rw [if_pos h, if_pos (by omega), hv h, show p + c + n = p + n + c by omega]; exact Sim.leaf _ _ _
  · rw [if_neg h]
    refine ⟨fun _ _ e => (by cases e), fun k e hk => ?_⟩
    cases e
    rcases hk with hk | hk
    · exact absurd rfl hk
    · rw [if_neg (by omega)]
theorem symGo_sim {c : Nat} {d d' : List UInt8} (H : Held c d d') (cd : Code) : ∀ m n taken first shorter p, Sim c (8 * d.length + c = 8 * d'.length) (symGo d cd m n taken first shorter p) (symGo d' cd m n taken first shorter (p + c))
  | 0, _, _, _, _, p => Sim.error _ _
  | m + 1, n, taken, first, shorter, p => by
    have ih := symGo_sim H cd m (n + 1) (2 * taken + bitv d p) (2 * first + cd.count.getD n 0) (shorter + cd.count.getD n 0) (p + 1)
    have hl := H.len
    by_cases hp : p < 8 * d.length
    · rw [symGo, symGo, if_pos hp, if_pos (show p + c < 8 * d'.length by omega), H.bit p hp]
      by_cases hb : 2 * taken + bitv d p < 2 * first + cd.count.getD n 0
      · rw [if_pos hb, if_pos hb]
        have := Sim.leaf (ex := (8 * d.length + c = 8 * d'.length)) c (p + 1) (cd.symbols.getD (shorter + (2 * taken + bitv d p) - 2 * first) 0)
        rw [show p + 1 + c = p + c + 1 by omega] at this
        exact this
      · rw [if_neg hb, if_neg hb]; rw [show p + 1 + c = p + c + 1 by omega] at ih; exact ih
    · rw [symGo, symGo, if_neg hp]
      refine ⟨fun _ _ e => (by cases e), fun k e hk => ?_⟩
      cases e
      rcases hk with hk | hk
      · exact absurd rfl hk
      · rw [if_neg (by omega)]
theorem sym_sim {c : Nat} {d d' : List UInt8} (H : Held c d d') (cd : Code) (p : Nat) : Sim c (8 * d.length + c = 8 * d'.length) (sym d cd p) (sym d' cd (p + c)) := symGo_sim H cd _ _ _ _ _ p
theorem dist_sim {c : Nat} {d d' : List UInt8} (H : Held c d d') (cd : Code) (p : Nat) : Sim c (8 * d.length + c = 8 * d'.length) (dist d cd p) (dist d' cd (p + c)) := by
  refine (sym_sim H cd p).bind (fun s q => ?_)
  split
  · exact Sim.error _ _
  · exact (num_sim H _ q).bind (fun v q2 => Sim.leaf _ _ _)
theorem farBits_sim {c : Nat} {d d' : List UInt8} (H : Held c d d') (t : Table) (s p : Nat) : Sim c (8 * d.length + c = 8 * d'.length) (farBits d t s p) (farBits d' t s (p + c)) :=
  (num_sim H _ p).bind (fun _ q => (dist_sim H _ q).bind (fun _ _ => Sim.leaf _ _ _))
theorem headBits_sim {c : Nat} {d d' : List UInt8} (H : Held c d d') (p : Nat) : Sim c (8 * d.length + c = 8 * d'.length) (headBits d p) (headBits d' (p + c)) :=
  (num_sim H _ p).bind (fun _ q => (num_sim H _ q).bind (fun _ _ => Sim.leaf _ _ _))
theorem sizes_sim {c : Nat} {d d' : List UInt8} (H : Held c d d') (p : Nat) : Sim c (8 * d.length + c = 8 * d'.length) (sizes d p) (sizes d' (p + c)) := by
  have h8 := H.eight
  unfold sizes
  rw [show 8 * ((p + c + 7) / 8) = 8 * ((p + 7) / 8) + c by omega]
  refine (num_sim H 16 _).bind (fun n q => (num_sim H 16 q).bind (fun m q2 => ?_))
  split
  · exact Sim.error _ _
  · exact Sim.leaf _ _ _
theorem tellGo_sim {c : Nat} {d d' : List UInt8} (H : Held c d d') : ∀ n i l p, Sim c (8 * d.length + c = 8 * d'.length) (tellGo d n i l p) (tellGo d' n i l (p + c))
  | 0, _, l, p => Sim.leaf _ _ _
  | n + 1, i, l, p => by
    rw [tellGo, tellGo]
    exact (num_sim H 3 p).bind (fun v q => tellGo_sim H n (i + 1) _ q)
theorem telling_sim {c : Nat} {d d' : List UInt8} (H : Held c d d') (n p : Nat) : Sim c (8 * d.length + c = 8 * d'.length) (telling d n p) (telling d' n (p + c)) := by
  refine (tellGo_sim H n 0 _ p).bind (fun l q => ?_)
  split
  · exact Sim.leaf _ _ _
  · exact Sim.error _ _
theorem run_sim {c : Nat} {d d' : List UInt8} (H : Held c d d') (s p : Nat) : Sim c (8 * d.length + c = 8 * d'.length) (run d s p) (run d' s (p + c)) := by
  unfold run
  split
  · exact (num_sim H _ p).bind (fun v q => Sim.leaf _ _ _)
  split
  · exact (num_sim H _ p).bind (fun v q => Sim.leaf _ _ _)
  split
  · exact (num_sim H _ p).bind (fun v q => Sim.leaf _ _ _)
  · exact Sim.leaf _ _ _
theorem toldStep_end {d : List UInt8} {cd : Code} {count p q : Nat} {l l' : List Nat} (h : toldStep d cd count l p = .ok (.inl l', q)) : q ≤ 8 * d.length := by
  unfold toldStep at h
  split at h
  · cases hs : sym d cd p with
    | error k => rw [hs] at h; cases h
    | ok okk =>
      obtain ⟨s, p1⟩ := okk
      have h1 := (sym_ok hs).2
      rw [hs] at h
      simp only [Out.bind] at h
      cases hr : run d s p1 with
      | error k => rw [hr] at h; cases h
      | ok okk =>
        obtain ⟨lt, p2⟩ := okk
        have h2 := (run_ok hr h1).2.1
        rw [hr] at h
        simp only at h
        split at h
        · cases h
        · split at h
          · cases h
          · cases h; exact h2
  · cases h
theorem told_sim {c : Nat} {d d' : List UInt8} (H : Held c d d') (cd : Code) (count p : Nat) : Sim c (8 * d.length + c = 8 * d'.length) (told d cd count p) (told d' cd count (p + c)) := by
  refine iter_sim H.len (fun s p => ?_) (fun s p s' q h => toldStep_end h) _ [] p (Nat.le_refl _)
  unfold toldStep
  split
  · refine (sym_sim H cd p).bind (fun x q => (run_sim H x q).bind (fun lt q2 => ?_))
    split
    · exact Sim.error _ _
    split
    · exact Sim.error _ _
    · exact Sim.leaf _ _ _
  · exact Sim.leaf _ _ _
theorem keys_sim {c : Nat} {d d' : List UInt8} (H : Held c d d') (p : Nat) : Sim c (8 * d.length + c = 8 * d'.length) (keys d p) (keys d' (p + c)) := by
  refine (num_sim H 5 p).bind (fun a q => (num_sim H 5 q).bind (fun b q2 => (num_sim H 4 q2).bind (fun e q3 => ?_)))
  split
  · exact Sim.error _ _
  · refine (telling_sim H _ q3).bind (fun tc q4 => (told_sim H tc _ q4).bind (fun l q5 => ?_))
    split
    · exact Sim.leaf _ _ _
    · exact Sim.error _ _

/-- Where a reader stands, c bits further behind. -/
def M.by (m : M) (c : Nat) : M := { m with pos := m.pos + c }

structure SimS (c : Nat) (ex : Prop) (r r' : Step) : Prop where
  ok : ∀ m, r = .ok m → r' = .ok (m.by c)
  bad : ∀ k o, r = .error (k, o) → k ≠ 2 ∨ ex → r' = .error (k, o)
theorem SimS.error {ex : Prop} (c k : Nat) (o : List UInt8) : SimS c ex (.error (k, o)) (.error (k, o)) := ⟨fun _ e => (by cases e), fun _ _ e _ => e⟩
theorem SimS.leaf {ex : Prop} (c : Nat) (m m' : M) (h : m' = m.by c) : SimS c ex (.ok m) (.ok m') := ⟨fun _ e => (by cases e; rw [h]), fun _ _ e => (by cases e)⟩
theorem SimS.ite {c : Nat} {ex p p' : Prop} [Decidable p] [Decidable p'] {a b a' b' : Step} (hp : p' ↔ p) (h1 : SimS c ex a a') (h2 : SimS c ex b b') : SimS c ex (if p then a else b) (if p' then a' else b') := by
  by_cases h : p
  · rw [if_pos h, if_pos (hp.mpr h)]; exact h1
  · rw [if_neg h, if_neg (fun h' => h (hp.mp h'))]; exact h2
theorem Sim.thenS {α : Type} {c : Nat} {ex : Prop} {r r' : Out α} {o : List UInt8} {f f' : α → Nat → Step} (h : Sim c ex r r') (hf : ∀ a q, SimS c ex (f a q) (f' a (q + c))) : SimS c ex (thenS r o f) (thenS r' o f') := by
  cases r with
  | error k => exact ⟨fun _ e => (by cases e), fun k' o' e hk => by cases e; rw [h.bad k rfl hk]; rfl⟩
  | ok okk => obtain ⟨a, q⟩ := okk; rw [h.ok a q rfl]; exact hf a q

theorem obeyS_sim {c : Nat} {d d' : List UInt8} (H : Held c d d') (lim : Nat) (t : Table) (m : M) (s p : Nat) : SimS c (8 * d.length + c = 8 * d'.length) (obeyS d lim t m s p) (obeyS d' lim t (m.by c) s (p + c)) := by
  unfold obeyS
  refine SimS.ite Iff.rfl (SimS.ite Iff.rfl (SimS.error _ _ _) (SimS.leaf _ _ _ rfl)) (SimS.ite Iff.rfl (SimS.leaf _ _ _ rfl) (SimS.ite Iff.rfl ?_ (SimS.error _ _ _)))
  refine (farBits_sim H t s p).thenS (fun vf q => ?_)
  unfold copyS
  exact SimS.ite Iff.rfl (SimS.error _ _ _) (SimS.ite Iff.rfl (SimS.error _ _ _) (SimS.leaf _ _ _ rfl))

theorem step_sim {c : Nat} {d d' : List UInt8} (H : Held c d d') (lim : Nat) (m : M) : SimS c (8 * d.length + c = 8 * d'.length) (step d lim m) (step d' lim (m.by c)) := by
  obtain ⟨pl, la, le, tab, asks, out, pos⟩ := m
  unfold step
  simp only [M.by]
  split
  · refine (headBits_sim H pos).thenS (fun ak q => ?_)
    unfold headS
    exact SimS.ite Iff.rfl (SimS.leaf _ _ _ rfl) (SimS.ite Iff.rfl (SimS.leaf _ _ _ rfl) (SimS.ite Iff.rfl (SimS.leaf _ _ _ rfl) (SimS.error _ _ _)))
  · exact (sizes_sim H pos).thenS (fun n q => SimS.leaf _ _ _ rfl)
  · refine SimS.ite Iff.rfl (SimS.leaf _ _ _ rfl) ((num_sim H 8 pos).thenS (fun v q => ?_))
    unfold byteS
    exact SimS.ite Iff.rfl (SimS.error _ _ _) (SimS.leaf _ _ _ rfl)
  · exact (keys_sim H pos).thenS (fun l q => SimS.leaf _ _ _ rfl)
  · cases tab with
    | none => exact SimS.error _ _ _
    | some t => exact (sym_sim H _ pos).thenS (fun s q => obeyS_sim H lim t _ s q)
  · exact SimS.error _ _ _

theorem held_app (d e : List UInt8) : Held 0 d (d ++ e) :=
  ⟨by rw [List.length_append]; omega, rfl, fun k h => by rw [Nat.add_zero]; exact (bit_app d e k h).symm⟩
theorem held_drop (d : List UInt8) (n : Nat) (h : n ≤ d.length) : Held (8 * n) (d.drop n) d := by
  refine ⟨by rw [List.length_drop]; omega, by omega, fun k hk => ?_⟩
  unfold bitv
  rw [show (k + 8 * n) / 8 = n + k / 8 by omega, show (k + 8 * n) % 8 = k % 8 by omega]
  simp [List.getD]

/-! More data: what the first steps come to stays. -/
theorem step_app (d e : List UInt8) (lim : Nat) {m m' : M} (h : step d lim m = .ok m') : step (d ++ e) lim m = .ok m' := (step_sim (held_app d e) lim m).ok m' h
theorem step_app_bad (d e : List UInt8) (lim : Nat) {m : M} {k : Nat} {o : List UInt8} (h : step d lim m = .error (k, o)) (hk : k ≠ 2) : step (d ++ e) lim m = .error (k, o) :=
  (step_sim (held_app d e) lim m).bad k o h (Or.inl hk)
/-! Bytes that were passed. -/
theorem step_drop (d : List UInt8) (n lim : Nat) (hn : n ≤ d.length) {m m' : M} (h : step (d.drop n) lim m = .ok m') : step d lim (m.by (8 * n)) = .ok (m'.by (8 * n)) := (step_sim (held_drop d n hn) lim m).ok m' h
theorem step_drop_bad (d : List UInt8) (n lim : Nat) (hn : n ≤ d.length) {m : M} {k : Nat} {o : List UInt8} (h : step (d.drop n) lim m = .error (k, o)) : step d lim (m.by (8 * n)) = .error (k, o) :=
  (step_sim (held_drop d n hn) lim m).bad k o h (Or.inr (by rw [List.length_drop]; omega))
end Gz
end Go.Proofs.YtjjjlilflbddoaaGreatDoor
/-
  The machine's last state: it is reached by every road, more data lead on from it, and bytes that were passed do not matter.
-/
namespace Go.Proofs.YtjjjlilflbddoaaGreatDoor
namespace Gz

theorem bind_ok {α β : Type} {r : Out α} {f : α → Nat → Out β} {b : β} {q : Nat} (h : r.bind f = .ok (b, q)) : ∃ a p, r = .ok (a, p) ∧ f a p = .ok (b, q) := by
  cases r with
  | error k => cases h
  | ok okk => obtain ⟨a, p⟩ := okk; exact ⟨a, p, rfl, h⟩
theorem thenS_ok {α : Type} {r : Out α} {o : List UInt8} {f : α → Nat → Step} {m : M} (h : thenS r o f = .ok m) : ∃ a p, r = .ok (a, p) ∧ f a p = .ok m := by
  cases r with
  | error k => cases h
  | ok okk => obtain ⟨a, p⟩ := okk; exact ⟨a, p, rfl, h⟩
theorem headBits_ok {d : List UInt8} {p q : Nat} {x : Nat × Nat} (h : headBits d p = .ok (x, q)) : p < q ∧ q ≤ 8 * d.length := by
  obtain ⟨a, p1, h1, h⟩ := bind_ok h
  obtain ⟨k, p2, h2, h⟩ := bind_ok h
  have e1 := num_ok h1
  have e2 := num_ok h2
  cases h
  omega
theorem sizes_ok {d : List UInt8} {p q n : Nat} (h : sizes d p = .ok (n, q)) : p < q ∧ q ≤ 8 * d.length := by
  obtain ⟨a, p1, h1, h⟩ := bind_ok h
  obtain ⟨k, p2, h2, h⟩ := bind_ok h
  have e1 := num_ok h1
  have e2 := num_ok h2
  split at h
  · cases h
  · cases h; omega
theorem farBits_ok {d : List UInt8} {t : Table} {s p q : Nat} {x : Nat × Nat} (h : farBits d t s p = .ok (x, q)) : p ≤ q ∧ q ≤ 8 * d.length := by
  obtain ⟨a, p1, h1, h⟩ := bind_ok h
  obtain ⟨k, p2, h2, h⟩ := bind_ok h
  have e1 := num_ok h1
  have e2 := dist_ok h2
  cases h
  omega
theorem codes_keys (d : List UInt8) (p : Nat) : codes d p = (keys d p).bind fun l q => .ok ((makeTable l), q) := by
  unfold codes keys
  cases num d 5 p with
  | error k => rfl
  | ok x =>
    obtain ⟨a, p1⟩ := x
    simp only [Out.bind]
    cases num d 5 p1 with
    | error k => rfl
    | ok x =>
      obtain ⟨b, p2⟩ := x
      simp only
      cases num d 4 p2 with
      | error k => rfl
      | ok x =>
        obtain ⟨c, p3⟩ := x
        simp only
        split
        · rfl
        · cases telling d (c + 4) p3 with
          | error k => rfl
          | ok x =>
            obtain ⟨tc, p4⟩ := x
            simp only
            cases told d tc (a + 257 + (b + 1)) p4 with
            | error k => rfl
            | ok x =>
              obtain ⟨l, p5⟩ := x
              simp only
              split <;> rfl
theorem keys_ok {d : List UInt8} {p q : Nat} {l : List Nat} (h : keys d p = .ok (l, q)) : p < q ∧ q ≤ 8 * d.length :=
  codes_more (t := makeTable l) (by rw [codes_keys, h]; rfl)

/-- How many steps there are at most. -/
def rank (d : List UInt8) (m : M) : Nat := 2 * (8 * d.length - m.pos) + (if m.pl = 2 ∧ m.le = 0 then 1 else 0)
theorem rank_le (d : List UInt8) (m : M) : rank d m ≤ 2 * (8 * d.length - m.pos) + 1 := by unfold rank; split <;> omega
theorem rank_far {d : List UInt8} {m m' : M} (h : m.pos < m'.pos) (h2 : m'.pos ≤ 8 * d.length) : rank d m' < rank d m := by
  have := rank_le d m'
  have : 2 * (8 * d.length - m.pos) ≤ rank d m := by unfold rank; omega
  omega

theorem obeyS_ok {d : List UInt8} {lim : Nat} {t : Table} {m m' : M} {s p : Nat} (h : obeyS d lim t m s p = .ok m') (hp : p ≤ 8 * d.length) : p ≤ m'.pos ∧ m'.pos ≤ 8 * d.length := by
  unfold obeyS at h
  split at h
  · split at h
    · cases h
    · cases h; exact ⟨Nat.le_refl _, hp⟩
  split at h
  · cases h; exact ⟨Nat.le_refl _, hp⟩
  split at h
  · obtain ⟨x, q, h1, h⟩ := thenS_ok h
    have := farBits_ok h1
    unfold copyS at h
    split at h
    · cases h
    split at h
    · cases h
    · cases h; exact this
  · cases h

theorem step_less {d : List UInt8} {lim : Nat} {m m' : M} (h : step d lim m = .ok m') (hp : m.pos ≤ 8 * d.length) : m.pos ≤ m'.pos ∧ m'.pos ≤ 8 * d.length ∧ rank d m' < rank d m := by
  have far : m.pos < m'.pos ∧ m'.pos ≤ 8 * d.length → m.pos ≤ m'.pos ∧ m'.pos ≤ 8 * d.length ∧ rank d m' < rank d m := fun h => ⟨by omega, h.2, rank_far h.1 h.2⟩
  unfold step at h
  split at h
  · obtain ⟨x, q, h1, h⟩ := thenS_ok h
    have e := headBits_ok h1
    unfold headS at h
    split at h
    · cases h; exact far e
    split at h
    · cases h; exact far e
    split at h
    · cases h; exact far e
    · cases h
  · obtain ⟨x, q, h1, h⟩ := thenS_ok h
    have e := sizes_ok h1
    cases h; exact far e
  · rename_i hpl
    split at h
    · rename_i hle
      cases h
      refine ⟨Nat.le_refl _, hp, ?_⟩
      have r1 : rank d m = 2 * (8 * d.length - m.pos) + 1 := by unfold rank; rw [if_pos ⟨hpl, hle⟩]
      have h5 : m.over.pl ≠ 2 := by
        show (if m.la then 5 else 0) ≠ 2
        cases m.la <;> decide
      have r0 : rank d m.over = 2 * (8 * d.length - m.pos) + 0 := by unfold rank; rw [if_neg (fun hh => h5 hh.1)]; rfl
      omega
    · obtain ⟨x, q, h1, h⟩ := thenS_ok h
      have e := num_ok h1
      unfold byteS at h
      split at h
      · cases h
      · cases h; exact far ⟨by show m.pos < q; omega, e.2⟩
  · obtain ⟨x, q, h1, h⟩ := thenS_ok h
    have e := keys_ok h1
    cases h; exact far e
  · split at h
    · cases h
    · obtain ⟨x, q, h1, h⟩ := thenS_ok h
      have e := sym_ok h1
      have e2 := obeyS_ok h e.2
      exact far ⟨by omega, e2.2⟩
  · cases h

theorem steps_any (d : List UInt8) (lim : Nat) : ∀ (n n' : Nat) (m : M), rank d m ≤ n → rank d m ≤ n' → m.pos ≤ 8 * d.length → steps d lim n m = steps d lim n' m
  | 0, 0, _, _, _, _ => rfl
  | 0, n' + 1, m, h, _, hp => by
    rw [steps, steps]
    cases hs : step d lim m with
    | error e => rfl
    | ok m' => have := (step_less hs hp).2.2; omega
  | n + 1, 0, m, _, h, hp => by
    rw [steps, steps]
    cases hs : step d lim m with
    | error e => rfl
    | ok m' => have := (step_less hs hp).2.2; omega
  | n + 1, n' + 1, m, h, h', hp => by
    rw [steps, steps]
    cases hs : step d lim m with
    | error e => rfl
    | ok m' =>
      have e := step_less hs hp
      exact steps_any d lim n n' m' (by omega) (by omega) e.2.1

/-- Where all the steps that can be made lead. -/
def final (d : List UInt8) (lim : Nat) (m : M) : M := steps d lim (rank d m) m

theorem final_ok {d : List UInt8} {lim : Nat} {m m' : M} (h : step d lim m = .ok m') (hp : m.pos ≤ 8 * d.length) : final d lim m = final d lim m' := by
  have e := step_less h hp
  obtain ⟨n, hn⟩ : ∃ n, rank d m = n + 1 := ⟨rank d m - 1, by omega⟩
  unfold final
  rw [hn, steps, h]
  exact steps_any d lim n _ m' (by omega) (Nat.le_refl _) e.2.1
theorem final_bad {d : List UInt8} {lim : Nat} {m : M} {e : Nat × List UInt8} (h : step d lim m = .error e) : final d lim m = m := by
  unfold final
  cases rank d m with
  | zero => rfl
  | succ n => rw [steps, h]

/-- From the last state back to the first. -/
theorem final_ind {d : List UInt8} {lim : Nat} {P : M → Prop} (hb : ∀ m e, m.pos ≤ 8 * d.length → step d lim m = .error e → P m) (ho : ∀ m m', m.pos ≤ 8 * d.length → step d lim m = .ok m' → P m' → P m) : ∀ m, m.pos ≤ 8 * d.length → P m := by
  have key : ∀ n m, rank d m ≤ n → m.pos ≤ 8 * d.length → P m := by
    intro n
    induction n with
    | zero =>
      intro m hr hp
      cases hs : step d lim m with
      | error e => exact hb m e hp hs
      | ok m' => have := (step_less hs hp).2.2; omega
    | succ n ih =>
      intro m hr hp
      cases hs : step d lim m with
      | error e => exact hb m e hp hs
      | ok m' => have e := step_less hs hp; exact ho m m' hp hs (ih m' (by omega) e.2.1)
  exact fun m hp => key _ m (Nat.le_refl _) hp

theorem final_end (d : List UInt8) (lim : Nat) : ∀ m, m.pos ≤ 8 * d.length → ∃ k o, step d lim (final d lim m) = .error (k, o) :=
  final_ind (fun m e _ h => ⟨e.1, e.2, by rw [final_bad h, h]⟩) (fun m m' hp h ih => by rw [final_ok h hp]; exact ih)
theorem final_pos (d : List UInt8) (lim : Nat) : ∀ m, m.pos ≤ 8 * d.length → m.pos ≤ (final d lim m).pos ∧ (final d lim m).pos ≤ 8 * d.length :=
  final_ind (fun m e hp h => by rw [final_bad h]; exact ⟨Nat.le_refl _, hp⟩) (fun m m' hp h ih => by rw [final_ok h hp]; have := step_less h hp; exact ⟨by omega, ih.2⟩)

/-- More data lead on from there. -/
theorem final_app (d e : List UInt8) (lim : Nat) : ∀ m, m.pos ≤ 8 * d.length → final (d ++ e) lim m = final (d ++ e) lim (final d lim m) :=
  final_ind (fun m x _ h => by rw [final_bad h]) (fun m m' hp h ih => by
    rw [final_ok h hp, ← ih]
    exact final_ok (step_app d e lim h) (by rw [List.length_append]; omega))
/-- Where it ended with a fault, or at the end, more data change nothing. -/
theorem final_app_bad (d e : List UInt8) (lim : Nat) {m : M} {k : Nat} {o : List UInt8} (hp : m.pos ≤ 8 * d.length) (h : step d lim (final d lim m) = .error (k, o)) (hk : k ≠ 2) :
    final (d ++ e) lim m = final d lim m ∧ step (d ++ e) lim (final (d ++ e) lim m) = .error (k, o) := by
  have h1 := step_app_bad d e lim h hk
  have h2 : final (d ++ e) lim m = final d lim m := by rw [final_app d e lim m hp]; exact final_bad h1
  exact ⟨h2, by rw [h2]; exact h1⟩
/-- Bytes that were passed do not matter. -/
theorem final_drop (d : List UInt8) (n lim : Nat) (hn : n ≤ d.length) : ∀ m, m.pos ≤ 8 * (d.drop n).length → final d lim (m.by (8 * n)) = (final (d.drop n) lim m).by (8 * n) :=
  final_ind (fun m x _ h => by rw [final_bad h]; exact final_bad (step_drop_bad d n lim hn (k := x.1) (o := x.2) h)) (fun m m' hp h ih => by
    rw [final_ok h hp, ← ih]
    exact final_ok (step_drop d n lim hn h) (by rw [List.length_drop] at hp; show m.pos + 8 * n ≤ _; omega))

/-! What was put out only grows. -/
theorem copyO_grow (lim far : Nat) : ∀ n out, ∃ x, copyO lim far n out = out ++ x
  | 0, out => ⟨[], by rw [copyO, List.append_nil]⟩
  | n + 1, out => by
    rw [copyO]
    split
    · exact ⟨[], by rw [List.append_nil]⟩
    · obtain ⟨x, hx⟩ := copyO_grow lim far n (out ++ [out.getD (out.length - far) 0])
      exact ⟨[out.getD (out.length - far) 0] ++ x, by rw [hx, List.append_assoc]⟩
end Gz
end Go.Proofs.YtjjjlilflbddoaaGreatDoor
/-
  The machine of steps and the reader by parts (Pure) come to the same.
-/
namespace Go.Proofs.YtjjjlilflbddoaaGreatDoor
namespace Gz

/-- What all the steps come to: what was put out and the bit behind it, or the number of what was met. -/
def endOf (d : List UInt8) (lim : Nat) (m : M) : Out (List UInt8) :=
  match step d lim (final d lim m) with
  | .error (0, o) => .ok (o, (final d lim m).pos)
  | .error (k + 1, _) => .error (k + 1)
  | .ok _ => .error 99

theorem endOf_ok {d : List UInt8} {lim : Nat} {m m' : M} (h : step d lim m = .ok m') (hp : m.pos ≤ 8 * d.length) : endOf d lim m = endOf d lim m' := by
  unfold endOf; rw [final_ok h hp]
theorem endOf_bad {d : List UInt8} {lim : Nat} {m : M} {k : Nat} {o : List UInt8} (h : step d lim m = .error (k, o)) (hk : k ≠ 0) : endOf d lim m = .error k := by
  unfold endOf
  rw [final_bad h, h]
  cases k with
  | zero => exact absurd rfl hk
  | succ k => rfl
theorem endOf_end {d : List UInt8} {lim : Nat} {m : M} (h : m.pl = 5) : endOf d lim m = .ok (m.out, m.pos) := by
  have hs : step d lim m = .error (0, m.out) := by unfold step; rw [h]; rfl
  unfold endOf
  rw [final_bad hs, hs]

theorem num_bad {d : List UInt8} {n p k : Nat} (h : num d n p = .error k) : k = 2 := by
  unfold num at h; split at h
  · cases h
  · cases h; rfl
theorem dist_bad {d : List UInt8} {c : Code} {p k : Nat} (h : dist d c p = .error k) : k ≠ 0 := by
  unfold dist at h
  cases hs : sym d c p with
  | error k' => rw [hs] at h; cases h; rcases symGo_bad _ _ _ _ _ _ _ _ _ hs with e | e <;> omega
  | ok x =>
    obtain ⟨s, q⟩ := x
    rw [hs] at h
    simp only [Out.bind] at h
    split at h
    · cases h; omega
    · cases hn : num d (distBits s) q with
      | error k' => rw [hn] at h; cases h; have := num_bad hn; omega
      | ok y => rw [hn] at h; cases h

theorem copyO_eq (lim far : Nat) : ∀ n out o, copyGo lim far n out = some o → copyO lim far n out = o
  | 0, out, o, h => by rw [copyGo] at h; cases h; rfl
  | n + 1, out, o, h => by
    rw [copyGo] at h
    rw [copyO]
    split at h
    · cases h
    · rename_i hh; rw [if_neg hh]; exact copyO_eq lim far n _ o h

/-- What a symbol says, both ways. -/
theorem obeyS_eq (d : List UInt8) (lim : Nat) (t : Table) (m : M) (s p : Nat) :
    match obey d t lim s m.out p with
    | .error k => k ≠ 0 ∧ ∃ o, obeyS d lim t m s p = .error (k, o)
    | .ok ((o, b), q) => obeyS d lim t m s p = .ok (if b then { m.over with out := o, pos := q } else { m with out := o, pos := q }) := by
  unfold obey obeyS
  by_cases h1 : s < 256
  · rw [if_pos h1, if_pos h1]
    by_cases h2 : lim ≤ m.out.length
    · rw [if_pos h2, if_pos h2]; exact ⟨by omega, _, rfl⟩
    · rw [if_neg h2, if_neg h2]; rfl
  rw [if_neg h1, if_neg h1]
  by_cases h2 : s = 256
  · rw [if_pos h2, if_pos h2]; rfl
  rw [if_neg h2, if_neg h2]
  by_cases h3 : s ≤ 285
  · rw [if_pos h3, if_pos h3]
    unfold rep farBits
    cases hn : num d (lenBits s) p with
    | error k => have := num_bad hn; exact ⟨by omega, _, rfl⟩
    | ok x =>
      obtain ⟨v, p1⟩ := x
      simp only [Out.bind]
      cases hd : dist d t.dists p1 with
      | error k => have := dist_bad hd; exact ⟨this, _, rfl⟩
      | ok x =>
        obtain ⟨far, p2⟩ := x
        simp only [thenS, copyS]
        by_cases h4 : m.out.length < far
        · rw [if_pos h4, if_pos h4]; exact ⟨by omega, _, rfl⟩
        · rw [if_neg h4, if_neg h4]
          cases hc : copyGo lim far (lenFrom.getD (s - 257) 0 + v) m.out with
          | none => exact ⟨by omega, _, rfl⟩
          | some o => simp; exact copyO_eq _ _ _ _ _ hc
  · rw [if_neg h3, if_neg h3]; exact ⟨by omega, _, rfl⟩

theorem syms_end (d : List UInt8) (lim : Nat) (t : Table) : ∀ n m, 8 * d.length - m.pos ≤ n → m.pl = 4 → m.tab = some t → m.pos ≤ 8 * d.length →
    endOf d lim m = (syms d t lim m.out m.pos).bind fun o q => endOf d lim { m.over with out := o, pos := q } := by
  have key : ∀ m, m.pl = 4 → m.tab = some t → m.pos ≤ 8 * d.length → (∀ m', m.pos < m'.pos → m'.pl = 4 → m'.tab = some t → m'.pos ≤ 8 * d.length → m'.la = m.la → m'.le = m.le → m'.asks = m.asks →
      endOf d lim m' = (syms d t lim m'.out m'.pos).bind fun o q => endOf d lim { m'.over with out := o, pos := q }) →
      endOf d lim m = (syms d t lim m.out m.pos).bind fun o q => endOf d lim { m.over with out := o, pos := q } := by
    intro m hpl htb hp ih
    have hst : step d lim m = thenS (sym d t.syms m.pos) m.out (obeyS d lim t m) := by unfold step; rw [hpl]; simp only [htb]
    have hsy : syms d t lim m.out m.pos = iter (8 * d.length) (symsStep d t lim) m.out m.pos := rfl
    cases hs : sym d t.syms m.pos with
    | error k =>
      rw [hs] at hst
      have hk : k ≠ 0 := by rcases symGo_bad _ _ _ _ _ _ _ _ _ hs with e | e <;> omega
      rw [endOf_bad hst hk, hsy, iter_bad (k := k) (by unfold symsStep; rw [hs]; rfl)]
      rfl
    | ok x =>
      obtain ⟨s, q⟩ := x
      have hq := sym_ok hs
      rw [hs] at hst
      have hst : step d lim m = obeyS d lim t m s q := hst
      have ho := obeyS_eq d lim t m s q
      cases hob : obey d t lim s m.out q with
      | error k =>
        rw [hob] at ho
        obtain ⟨hk, o, ho⟩ := ho
        rw [endOf_bad (hst.trans ho) hk, hsy, iter_bad (k := k) (by unfold symsStep; rw [hs]; simp only [Out.bind]; rw [hob])]
        rfl
      | ok y =>
        obtain ⟨⟨o, b⟩, q2⟩ := y
        have hq2 := obey_ok hob hq.2
        rw [hob] at ho
        have hss : symsStep d t lim m.out m.pos = .ok ((if b then .inr o else .inl o), q2) := by unfold symsStep; rw [hs]; simp only [Out.bind]; rw [hob]
        rw [endOf_ok (hst.trans ho) hp, hsy]
        cases b with
        | true => rw [iter_end hss]; rfl
        | false =>
          rw [iter_more hss (by omega) hq2.2]
          exact ih { m with out := o, pos := q2 } (by show m.pos < q2; omega) hpl htb hq2.2 rfl rfl rfl
  intro n
  induction n with
  | zero => intro m hn hpl htb hp; exact key m hpl htb hp (fun m' h1 _ _ h2 _ _ _ => by omega)
  | succ n ih => intro m hn hpl htb hp; exact key m hpl htb hp (fun m' h1 h2 h3 h4 _ _ _ => ih m' (by omega) h2 h3 h4)

theorem bytes_end (d : List UInt8) (lim : Nat) : ∀ n m, m.le = n → m.pl = 2 → m.pos ≤ 8 * d.length →
    endOf d lim m = (bytes d lim n m.out m.pos).bind fun o q => endOf d lim { m.over with le := 0, out := o, pos := q }
  | 0, m, hle, hpl, hp => by
    have hst : step d lim m = .ok m.over := by unfold step; rw [hpl]; simp only [hle, if_true]
    rw [endOf_ok hst hp, bytes]
    obtain ⟨pl, la, le, tab, asks, out, pos⟩ := m
    cases hle
    rfl
  | n + 1, m, hle, hpl, hp => by
    have hst : step d lim m = thenS (num d 8 m.pos) m.out (byteS lim m) := by
      unfold step; rw [hpl]; simp only; rw [if_neg (by omega)]
    rw [bytes]
    cases hn : num d 8 m.pos with
    | error k => rw [hn] at hst; have := num_bad hn; rw [endOf_bad hst (by omega)]; rfl
    | ok x =>
      obtain ⟨v, q⟩ := x
      have hq := num_ok hn
      rw [hn] at hst
      have hst : step d lim m = byteS lim m v q := hst
      simp only [Out.bind]
      unfold byteS at hst
      by_cases hl : lim ≤ m.out.length
      · rw [if_pos hl] at hst; rw [if_pos hl, endOf_bad hst (by omega)]
      · rw [if_neg hl] at hst
        rw [if_neg hl, endOf_ok hst hp]
        exact bytes_end d lim n { m with le := m.le - 1, out := m.out ++ [UInt8.ofNat v], pos := q } (by show m.le - 1 = n; omega) hpl hq.2

theorem stored_parts (d : List UInt8) (lim : Nat) (out : List UInt8) (p : Nat) : stored d lim out p = (sizes d p).bind fun n q => bytes d lim n out q := by
  unfold stored sizes
  cases num d 16 (8 * ((p + 7) / 8)) with
  | error k => rfl
  | ok x =>
    obtain ⟨n, p1⟩ := x
    simp only [Out.bind]
    cases num d 16 p1 with
    | error k => rfl
    | ok x =>
      obtain ⟨m, p2⟩ := x
      simp only
      split <;> rfl
theorem sizes_bad {d : List UInt8} {p k : Nat} (h : sizes d p = .error k) : k ≠ 0 := by
  unfold sizes at h
  cases h1 : num d 16 (8 * ((p + 7) / 8)) with
  | error k' => rw [h1] at h; cases h; have := num_bad h1; omega
  | ok x =>
    obtain ⟨n, p1⟩ := x
    rw [h1] at h
    simp only [Out.bind] at h
    cases h2 : num d 16 p1 with
    | error k' => rw [h2] at h; cases h; have := num_bad h2; omega
    | ok x =>
      obtain ⟨m, p2⟩ := x
      rw [h2] at h
      simp only at h
      split at h
      · cases h; omega
      · cases h

/-- Where the reader by parts stands, seen by the machine. -/
def M.at_ (m : M) (s : St) (p : Nat) : Prop := m.la = s.last ∧ m.out = s.out ∧ m.pos = p ∧
  match s.place with
  | .inl (false, false) => m.pl = 0
  | .inl (false, true) => m.pl = 1
  | .inl (true, false) => m.pl = 3
  | .inl (true, true) => m.pl = 5
  | .inr t => m.pl = 4 ∧ m.tab = some t

theorem at_over {m : M} {la : Bool} {out : List UInt8} {p : Nat} (h1 : m.la = la) (h2 : m.out = out) (h3 : m.pos = p) (h4 : m.pl = if la then 5 else 0) : m.at_ { place := ended la, last := la, out := out } p := by
  refine ⟨h1, h2, h3, ?_⟩
  unfold ended
  cases la with
  | true => exact h4
  | false => exact h4

/-- No fault has the number 0. -/
def NZ {α : Type} (r : Out α) : Prop := ∀ k, r = .error k → k ≠ 0
theorem NZ.bind {α β : Type} {r : Out α} {f : α → Nat → Out β} (h : NZ r) (hf : ∀ a q, NZ (f a q)) : NZ (r.bind f) := by
  intro k e
  cases r with
  | error k' => cases e; exact h k rfl
  | ok x => obtain ⟨a, q⟩ := x; exact hf a q k e
theorem NZ.leaf {α : Type} (x : α × Nat) : NZ (.ok x) := fun k e => by cases e
theorem NZ.err {α : Type} (k : Nat) (h : k ≠ 0) : NZ (α := α) (.error k) := fun k' e => by cases e; exact h
theorem nz_num (d : List UInt8) (n p : Nat) : NZ (num d n p) := fun k e => by have := num_bad e; omega
theorem nz_sym (d : List UInt8) (c : Code) (p : Nat) : NZ (sym d c p) := fun k e => by rcases symGo_bad _ _ _ _ _ _ _ _ _ e with h | h <;> omega
theorem nz_iter {σ ρ : Type} {N : Nat} {step : σ → Nat → Out (σ ⊕ ρ)} (h : ∀ s p, NZ (step s p)) : ∀ n s p, NZ (iterN N step n s p) := by
  intro n
  induction n with
  | zero =>
    intro s p k e
    rw [iterN] at e
    cases hs : step s p with
    | error k' => rw [hs] at e; cases e; exact h s p k hs
    | ok x =>
      obtain ⟨y, q⟩ := x
      rw [hs] at e
      cases y with
      | inr r => cases e
      | inl s' => cases e; omega
  | succ n ih =>
    intro s p k e
    rw [iterN] at e
    cases hs : step s p with
    | error k' => rw [hs] at e; cases e; exact h s p k hs
    | ok x =>
      obtain ⟨y, q⟩ := x
      rw [hs] at e
      cases y with
      | inr r => cases e
      | inl s' =>
        simp only at e
        split at e
        · exact ih s' q k e
        · cases e; omega
theorem nz_tellGo (d : List UInt8) : ∀ n i l p, NZ (tellGo d n i l p)
  | 0, _, _, _ => NZ.leaf _
  | n + 1, i, l, p => by rw [tellGo]; exact (nz_num d 3 p).bind (fun _ _ => nz_tellGo d n _ _ _)
theorem nz_telling (d : List UInt8) (n p : Nat) : NZ (telling d n p) := by
  refine (nz_tellGo d n 0 _ p).bind (fun l q => ?_)
  split
  · exact NZ.leaf _
  · exact NZ.err 5 (by omega)
theorem nz_told (d : List UInt8) (c : Code) (count p : Nat) : NZ (told d c count p) := by
  refine nz_iter (fun s p => ?_) _ _ _
  unfold toldStep
  split
  · refine (nz_sym d c p).bind (fun x q => NZ.bind (fun k e => by have := run_bad e; omega) (fun lt q2 => ?_))
    split
    · exact NZ.err 5 (by omega)
    split
    · exact NZ.err 5 (by omega)
    · exact NZ.leaf _
  · exact NZ.leaf _
theorem nz_keys (d : List UInt8) (p : Nat) : NZ (keys d p) := by
  refine (nz_num d 5 p).bind (fun a q => (nz_num d 5 q).bind (fun b q2 => (nz_num d 4 q2).bind (fun e q3 => ?_)))
  split
  · exact NZ.err 5 (by omega)
  · refine (nz_telling d _ q3).bind (fun tc q4 => (nz_told d tc _ q4).bind (fun l q5 => ?_))
    split
    · exact NZ.leaf _
    · exact NZ.err 5 (by omega)

theorem read_at (d : List UInt8) (lim : Nat) : ∀ n s p m, 8 * d.length - p ≤ n → M.at_ m s p → p ≤ 8 * d.length → iter (8 * d.length) (goOn d lim) s p = endOf d lim m := by
  have key : ∀ s p m, M.at_ m s p → p ≤ 8 * d.length → (∀ s' q m', p < q → q ≤ 8 * d.length → M.at_ m' s' q → iter (8 * d.length) (goOn d lim) s' q = endOf d lim m') → iter (8 * d.length) (goOn d lim) s p = endOf d lim m := by
    intro s p m hm hp ih
    obtain ⟨place, last, out⟩ := s
    obtain ⟨pl, la, le, tab, asks, mo, pos⟩ := m
    obtain ⟨h1, h2, h3, h4⟩ := hm
    simp only at h1 h2 h3 h4
    subst h1 h2 h3
    rcases place with ⟨a, b⟩ | t
    · cases a with
      | false =>
        cases b with
        | false =>
          simp only at h4
          subst h4
          have hst : step d lim { pl := 0, la := la, le := le, tab := tab, asks := asks, out := mo, pos := pos } = thenS (headBits d pos) mo (headS { pl := 0, la := la, le := le, tab := tab, asks := asks, out := mo, pos := pos }) := rfl
          have hgo : goOn d lim { place := .inl (false, false), last := la, out := mo } pos = (headBits d pos).bind fun ak p2 =>
              if ak.2 = 0 then .ok ((.inl { place := .inl (false, true), last := ak.1 == 1, out := mo }), p2)
              else if ak.2 = 1 then .ok ((.inl { place := .inr fixed, last := ak.1 == 1, out := mo }), p2)
              else if ak.2 = 2 then .ok ((.inl { place := .inl (true, false), last := ak.1 == 1, out := mo }), p2)
              else .error 3 := by
            unfold goOn headBits
            simp only
            cases num d 1 pos with
            | error k => rfl
            | ok x =>
              obtain ⟨a, p1⟩ := x
              simp only [Out.bind]
              cases num d 2 p1 with
              | error k => rfl
              | ok x => rfl
          cases hh : headBits d pos with
          | error k =>
            rw [hh] at hst hgo
            have hk : k ≠ 0 := ((nz_num d 1 pos).bind (fun a q => (nz_num d 2 q).bind (fun _ _ => NZ.leaf _))) k hh
            rw [iter_bad (k := k) hgo, endOf_bad hst hk]
          | ok x =>
            obtain ⟨ak, q⟩ := x
            have hq := headBits_ok hh
            rw [hh] at hst hgo
            simp only [Out.bind] at hgo
            simp only [thenS, headS] at hst
            by_cases k0 : ak.2 = 0
            · rw [if_pos k0] at hst hgo
              rw [iter_more hgo hq.1 hq.2, endOf_ok hst hp]
              exact ih _ q _ hq.1 hq.2 ⟨rfl, rfl, rfl, rfl⟩
            rw [if_neg k0] at hst hgo
            by_cases k1 : ak.2 = 1
            · rw [if_pos k1] at hst hgo
              rw [iter_more hgo hq.1 hq.2, endOf_ok hst hp]
              exact ih _ q _ hq.1 hq.2 ⟨rfl, rfl, rfl, rfl, rfl⟩
            rw [if_neg k1] at hst hgo
            by_cases k2 : ak.2 = 2
            · rw [if_pos k2] at hst hgo
              rw [iter_more hgo hq.1 hq.2, endOf_ok hst hp]
              exact ih _ q _ hq.1 hq.2 ⟨rfl, rfl, rfl, rfl⟩
            rw [if_neg k2] at hst hgo
            rw [iter_bad hgo, endOf_bad hst (by omega)]
        | true =>
          simp only at h4
          subst h4
          have hst : step d lim { pl := 1, la := la, le := le, tab := tab, asks := asks, out := mo, pos := pos } = thenS (sizes d pos) mo fun n q => .ok { pl := 2, la := la, le := n, tab := tab, asks := asks, out := mo, pos := q } := rfl
          have hgo : goOn d lim { place := .inl (false, true), last := la, out := mo } pos = (stored d lim mo pos).bind fun o p1 => .ok ((.inl { place := ended la, last := la, out := o }), p1) := rfl
          have hE : endOf d lim { pl := 1, la := la, le := le, tab := tab, asks := asks, out := mo, pos := pos } = (stored d lim mo pos).bind fun o q => endOf d lim { pl := if la then 5 else 0, la := la, le := 0, tab := none, asks := asks, out := o, pos := q } := by
            rw [stored_parts]
            cases hz : sizes d pos with
            | error k => rw [hz] at hst; rw [endOf_bad hst (sizes_bad hz)]; rfl
            | ok x =>
              obtain ⟨n, q⟩ := x
              rw [hz] at hst
              rw [endOf_ok hst hp]
              exact bytes_end d lim n _ rfl rfl (sizes_ok hz).2
          rw [hE]
          cases hs : stored d lim mo pos with
          | error k => rw [hs] at hgo; exact iter_bad hgo
          | ok x =>
            obtain ⟨o, q⟩ := x
            have hq := stored_more hs
            rw [hs] at hgo
            rw [iter_more hgo hq.1 hq.2]
            exact ih _ q _ hq.1 hq.2 (at_over rfl rfl rfl rfl)
      | true =>
        cases b with
        | false =>
          simp only at h4
          subst h4
          have hst : step d lim { pl := 3, la := la, le := le, tab := tab, asks := asks, out := mo, pos := pos } = thenS (keys d pos) mo fun l q => .ok { pl := 4, la := la, le := le, tab := some (makeTable l), asks := asks ++ [l], out := mo, pos := q } := rfl
          have hgo : goOn d lim { place := .inl (true, false), last := la, out := mo } pos = (codes d pos).bind fun t p1 => (syms d t lim mo p1).bind fun o p2 => .ok ((.inl { place := ended la, last := la, out := o }), p2) := rfl
          rw [codes_keys] at hgo
          cases hz : keys d pos with
          | error k => rw [hz] at hst hgo; rw [endOf_bad hst (nz_keys d pos k hz)]; exact iter_bad hgo
          | ok x =>
            obtain ⟨l, q⟩ := x
            have hq := keys_ok hz
            rw [hz] at hst hgo
            simp only [Out.bind] at hgo
            rw [endOf_ok hst hp, syms_end d lim (makeTable l) _ _ (Nat.le_refl _) rfl rfl hq.2]
            simp only
            cases hs : syms d (makeTable l) lim mo q with
            | error k => rw [hs] at hgo; exact iter_bad hgo
            | ok x =>
              obtain ⟨o, q2⟩ := x
              have hq2 := syms_more hs hq.2
              rw [hs] at hgo
              rw [iter_more hgo (by omega) hq2.2]
              exact ih _ q2 _ (by omega) hq2.2 (at_over rfl rfl rfl rfl)
        | true =>
          simp only at h4
          subst h4
          rw [endOf_end rfl]
          exact iter_end rfl
    · simp only at h4
      obtain ⟨h4, h5⟩ := h4
      subst h4 h5
      have hgo : goOn d lim { place := .inr t, last := la, out := mo } pos = (syms d t lim mo pos).bind fun o p1 => .ok ((.inl { place := ended la, last := la, out := o }), p1) := rfl
      rw [syms_end d lim t _ _ (Nat.le_refl _) rfl rfl hp]
      simp only
      cases hs : syms d t lim mo pos with
      | error k => rw [hs] at hgo; exact iter_bad hgo
      | ok x =>
        obtain ⟨o, q2⟩ := x
        have hq2 := syms_more hs hp
        rw [hs] at hgo
        rw [iter_more hgo hq2.1 hq2.2]
        exact ih _ q2 _ hq2.1 hq2.2 (at_over rfl rfl rfl rfl)
  intro n
  induction n with
  | zero => intro s p m hn hm hp; exact key s p m hm hp (fun s' q m' h1 h2 _ => by omega)
  | succ n ih => intro s p m hn hm hp; exact key s p m hm hp (fun s' q m' h1 h2 hm' => ih s' q m' (by omega) hm' h2)

/-- The reader by parts and the machine of steps come to the same. -/
theorem read_final (d : List UInt8) (lim : Nat) : read d lim = endOf d lim M.start :=
  read_at d lim _ _ 0 M.start (Nat.le_refl _) ⟨rfl, rfl, rfl, rfl⟩ (Nat.zero_le _)
end Gz
end Go.Proofs.YtjjjlilflbddoaaGreatDoor
