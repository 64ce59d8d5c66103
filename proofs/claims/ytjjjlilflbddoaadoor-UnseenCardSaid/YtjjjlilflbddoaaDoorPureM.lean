import Derived.Test.YtjjjlilflbddoaaDoorLaw
import Derived.Test.YtjjjlilflbddoaaDoorPure3
/-
  The reader as a machine of steps: what Pure says of whole parts, said step by step, with what was put out kept where a step fails.
-/
namespace Go.Proofs.YtjjjlilflbddoaaDoor
namespace Gz

/-- Where a reader stands between two steps. -/
structure M where
  pl : Nat
  la : Bool
  le : Nat
  tab : Option Table
  asks : List (List Nat)
  out : List UInt8
  pos : Nat

/-- A step: where the reader stands behind it, or the number of what was met (0: there is no more) and all that was put out then. -/
abbrev Step : Type := Except (Nat × List UInt8) M

def M.start : M := { pl := 0, la := false, le := 0, tab := none, asks := [], out := [], pos := 0 }
def M.over (m : M) : M := { m with pl := if m.la then 5 else 0, tab := none }

def thenS {α : Type} (r : Out α) (out : List UInt8) (f : α → Nat → Step) : Step :=
  match r with
  | .error k => .error (k, out)
  | .ok (a, q) => f a q

def headBits (d : List UInt8) (p : Nat) : Out (Nat × Nat) := (num d 1 p).bind fun a p1 => (num d 2 p1).bind fun k p2 => .ok ((a, k), p2)
def sizes (d : List UInt8) (p : Nat) : Out Nat :=
  (num d 16 (8 * ((p + 7) / 8))).bind fun n p1 => (num d 16 p1).bind fun m p2 => if m + n ≠ 65535 then .error 4 else .ok (n, p2)
/-- The lengths of a block of kind 2. -/
def keys (d : List UInt8) (p : Nat) : Out (List Nat) :=
  (num d 5 p).bind fun a p1 => (num d 5 p1).bind fun b p2 => (num d 4 p2).bind fun c p3 =>
    if 286 < a + 257 ∨ 30 < b + 1 then .error 5 else
    (telling d (c + 4) p3).bind fun tc p4 => (told d tc (a + 257 + (b + 1)) p4).bind fun l p5 =>
      if check (wide (l.take (a + 257)) 288 ++ wide (l.drop (a + 257)) 32) then .ok ((wide (l.take (a + 257)) 288 ++ wide (l.drop (a + 257)) 32), p5) else .error 5
def farBits (d : List UInt8) (t : Table) (s p : Nat) : Out (Nat × Nat) := (num d (lenBits s) p).bind fun v p2 => (dist d t.dists p2).bind fun far p3 => .ok ((v, far), p3)

/-- What a copying puts out, the limit met or not. -/
def copyO (lim far : Nat) : Nat → List UInt8 → List UInt8
  | 0, out => out
  | n + 1, out => if lim ≤ out.length then out else copyO lim far n (out ++ [out.getD (out.length - far) 0])

/-- What a repetition has put out in the end, whatever was met. -/
def repO (d : List UInt8) (t : Table) (lim s : Nat) (out : List UInt8) (p : Nat) : List UInt8 :=
  match num d (lenBits s) p with
  | .error _ => out
  | .ok (v, p1) => match dist d t.dists p1 with
    | .error _ => out
    | .ok (far, _) => if out.length < far then out else copyO lim far (lenFrom.getD (s - 257) 0 + v) out

def headS (m : M) (ak : Nat × Nat) (q : Nat) : Step :=
  if ak.2 = 0 then .ok { m with pl := 1, la := ak.1 == 1, pos := q }
  else if ak.2 = 1 then .ok { m with pl := 4, la := ak.1 == 1, tab := some fixed, pos := q }
  else if ak.2 = 2 then .ok { m with pl := 3, la := ak.1 == 1, pos := q }
  else .error (3, m.out)
def byteS (lim : Nat) (m : M) (v q : Nat) : Step :=
  if lim ≤ m.out.length then .error (8, m.out) else .ok { m with le := m.le - 1, out := m.out ++ [UInt8.ofNat v], pos := q }
def copyS (lim s : Nat) (m : M) (vf : Nat × Nat) (q : Nat) : Step :=
  if m.out.length < vf.2 then .error (7, m.out)
  else if copyGo lim vf.2 (lenFrom.getD (s - 257) 0 + vf.1) m.out = none then .error (8, copyO lim vf.2 (lenFrom.getD (s - 257) 0 + vf.1) m.out)
  else .ok { m with out := copyO lim vf.2 (lenFrom.getD (s - 257) 0 + vf.1) m.out, pos := q }
def obeyS (d : List UInt8) (lim : Nat) (t : Table) (m : M) (s p : Nat) : Step :=
  if s < 256 then (if lim ≤ m.out.length then .error (8, m.out) else .ok { m with out := m.out ++ [UInt8.ofNat s], pos := p })
  else if s = 256 then .ok { m.over with pos := p }
  else if s ≤ 285 then thenS (farBits d t s p) m.out (copyS lim s m)
  else .error (6, m.out)

def step (d : List UInt8) (lim : Nat) (m : M) : Step :=
  match m.pl with
  | 0 => thenS (headBits d m.pos) m.out (headS m)
  | 1 => thenS (sizes d m.pos) m.out fun n q => .ok { m with pl := 2, le := n, pos := q }
  | 2 => if m.le = 0 then .ok m.over else thenS (num d 8 m.pos) m.out (byteS lim m)
  | 3 => thenS (keys d m.pos) m.out fun l q => .ok { m with pl := 4, tab := some (makeTable l), asks := m.asks ++ [l], pos := q }
  | 4 => match m.tab with
    | none => .error (99, m.out)
    | some t => thenS (sym d t.syms m.pos) m.out (obeyS d lim t m)
  | _ => .error (0, m.out)

/-- At most n steps. -/
def steps (d : List UInt8) (lim : Nat) : Nat → M → M
  | 0, m => m
  | n + 1, m => match step d lim m with
    | .ok m' => steps d lim n m'
    | .error _ => m

/-! The same bits elsewhere: data d, of which d' hold all bits c further behind, and maybe more (ex: no more). -/

structure Sim {α : Type} (c : Nat) (ex : Prop) (r r' : Out α) : Prop where
  ok : ∀ a q, r = .ok (a, q) → r' = .ok (a, q + c)
  bad : ∀ k, r = .error k → k ≠ 2 ∨ ex → r' = .error k

theorem Sim.bind {α β : Type} {c : Nat} {ex : Prop} {r r' : Out α} {f f' : α → Nat → Out β} (h : Sim c ex r r') (hf : ∀ a q, Sim c ex (f a q) (f' a (q + c))) : Sim c ex (r.bind f) (r'.bind f') := by
  refine ⟨fun b q2 e => ?_, fun k e hk => ?_⟩
  · cases r with
    | error k => cases e
    | ok okk => obtain ⟨a, q⟩ := okk; rw [h.ok a q rfl]; exact (hf a q).ok b q2 e
  · cases r with
    | error k' => cases e; rw [h.bad k rfl hk]; rfl
    | ok okk => obtain ⟨a, q⟩ := okk; rw [h.ok a q rfl]; exact (hf a q).bad k e hk
theorem Sim.leaf {α : Type} {ex : Prop} (c p : Nat) (a : α) : Sim c ex (.ok (a, p)) (.ok (a, p + c)) := ⟨fun _ _ e => by cases e; rfl, fun _ e => by cases e⟩
theorem Sim.error {α : Type} {ex : Prop} (c k : Nat) : Sim (α := α) c ex (.error k) (.error k) := ⟨fun _ _ e => (by cases e), fun _ e _ => e⟩

theorem iter_sim {σ ρ : Type} {c N N' : Nat} {ex : Prop} {step step' : σ → Nat → Out (σ ⊕ ρ)} (hN : N + c ≤ N') (h : ∀ s p, Sim c ex (step s p) (step' s (p + c)))
    (hq : ∀ s p s' q, step s p = .ok (.inl s', q) → q ≤ N) : ∀ n s p, N - p ≤ n → Sim c ex (iter N step s p) (iter N' step' s (p + c)) := by
  have key : ∀ s p, (∀ s' q, p < q → q ≤ N → Sim c ex (iter N step s' q) (iter N' step' s' (q + c))) → Sim c ex (iter N step s p) (iter N' step' s (p + c)) := by
    intro s p ih
    have hs := h s p
    rw [iter_eq, iter_eq N']
    cases hst : step s p with
    | error k => exact ⟨fun _ _ e => (by cases e), fun k' e hk => by cases e; rw [hs.bad k hst hk]⟩
    | ok okk =>
      obtain ⟨x, q⟩ := okk
      rw [hs.ok x q hst]
      cases x with
      | inr r => exact Sim.leaf _ _ _
      | inl s' =>
        have h1 := hq s p s' q hst
        by_cases h2 : p < q
        · simp only
          rw [if_pos ⟨h2, h1⟩, if_pos ⟨by omega, by omega⟩]
          exact ih s' q h2 h1
        · simp only
          rw [if_neg (by omega), if_neg (by omega)]
          exact Sim.error _ _
  intro n
  induction n with
  | zero => intro s p hn; exact key s p (fun s' q h1 h2 => by omega)
  | succ n ih => intro s p hn; exact key s p (fun s' q h1 h2 => ih s' q (by omega))

/-- d' hold the bits of d, c further behind. -/
structure Held (c : Nat) (d d' : List UInt8) : Prop where
  len : 8 * d.length + c ≤ 8 * d'.length
  eight : c % 8 = 0
  bit : ∀ k, k < 8 * d.length → bitv d' (k + c) = bitv d k

theorem val_sim {c : Nat} {d d' : List UInt8} (H : Held c d d') (p : Nat) : ∀ n, p + n ≤ 8 * d.length → val d' (p + c) n = val d p n
  | 0, _ => rfl
  | n + 1, h => by
    rw [val, val, val_sim H p n (by omega)]
    have := H.bit (p + n) (by omega)
    rw [show p + c + n = p + n + c by omega, this]
theorem num_sim {c : Nat} {d d' : List UInt8} (H : Held c d d') (n p : Nat) : Sim c (8 * d.length + c = 8 * d'.length) (num d n p) (num d' n (p + c)) := by
  have hv := val_sim H p n
  have hl := H.len
  unfold num
  by_cases h : p + n ≤ 8 * d.length
  · rw [if_pos h, if_pos (by omega), hv h, show p + c + n = p + n + c by omega]; exact Sim.leaf _ _ _
  · rw [if_neg h]
    refine ⟨fun _ _ e => (by cases e), fun k e hk => ?_⟩
    cases e
    rcases hk with hk | hk
    · exact absurd rfl hk
    · rw [if_neg (by omega)]
theorem symGo_sim {c : Nat} {d d' : List UInt8} (H : Held c d d') (cd : Code) : ∀ m n taken first shorter p, Sim c (8 * d.length + c = 8 * d'.length) (symGo d cd m n taken first shorter p) (symGo d' cd m n taken first shorter (p + c))
  | 0, _, _, _, _, p => Sim.error _ _
  | m + 1, n, taken, first, shorter, p => by
    have ih := symGo_sim H cd m (n + 1) (2 * taken + bitv d p) (2 * first + cd.count.getD n 0) (shorter + cd.count.getD n 0) (p + 1)
    have hl := H.len
    by_cases hp : p < 8 * d.length
    · rw [symGo, symGo, if_pos hp, if_pos (show p + c < 8 * d'.length by omega), H.bit p hp]
      by_cases hb : 2 * taken + bitv d p < 2 * first + cd.count.getD n 0
      · rw [if_pos hb, if_pos hb]
        have := Sim.leaf (ex := (8 * d.length + c = 8 * d'.length)) c (p + 1) (cd.symbols.getD (shorter + (2 * taken + bitv d p) - 2 * first) 0)
        rw [show p + 1 + c = p + c + 1 by omega] at this
        exact this
      · rw [if_neg hb, if_neg hb]; rw [show p + 1 + c = p + c + 1 by omega] at ih; exact ih
    · rw [symGo, symGo, if_neg hp]
      refine ⟨fun _ _ e => (by cases e), fun k e hk => ?_⟩
      cases e
      rcases hk with hk | hk
      · exact absurd rfl hk
      · rw [if_neg (by omega)]
theorem sym_sim {c : Nat} {d d' : List UInt8} (H : Held c d d') (cd : Code) (p : Nat) : Sim c (8 * d.length + c = 8 * d'.length) (sym d cd p) (sym d' cd (p + c)) := symGo_sim H cd _ _ _ _ _ p
theorem dist_sim {c : Nat} {d d' : List UInt8} (H : Held c d d') (cd : Code) (p : Nat) : Sim c (8 * d.length + c = 8 * d'.length) (dist d cd p) (dist d' cd (p + c)) := by
  refine (sym_sim H cd p).bind (fun s q => ?_)
  split
  · exact Sim.error _ _
  · exact (num_sim H _ q).bind (fun v q2 => Sim.leaf _ _ _)
theorem farBits_sim {c : Nat} {d d' : List UInt8} (H : Held c d d') (t : Table) (s p : Nat) : Sim c (8 * d.length + c = 8 * d'.length) (farBits d t s p) (farBits d' t s (p + c)) :=
  (num_sim H _ p).bind (fun _ q => (dist_sim H _ q).bind (fun _ _ => Sim.leaf _ _ _))
theorem headBits_sim {c : Nat} {d d' : List UInt8} (H : Held c d d') (p : Nat) : Sim c (8 * d.length + c = 8 * d'.length) (headBits d p) (headBits d' (p + c)) :=
  (num_sim H _ p).bind (fun _ q => (num_sim H _ q).bind (fun _ _ => Sim.leaf _ _ _))
theorem sizes_sim {c : Nat} {d d' : List UInt8} (H : Held c d d') (p : Nat) : Sim c (8 * d.length + c = 8 * d'.length) (sizes d p) (sizes d' (p + c)) := by
  have h8 := H.eight
  unfold sizes
  rw [show 8 * ((p + c + 7) / 8) = 8 * ((p + 7) / 8) + c by omega]
  refine (num_sim H 16 _).bind (fun n q => (num_sim H 16 q).bind (fun m q2 => ?_))
  split
  · exact Sim.error _ _
  · exact Sim.leaf _ _ _
theorem tellGo_sim {c : Nat} {d d' : List UInt8} (H : Held c d d') : ∀ n i l p, Sim c (8 * d.length + c = 8 * d'.length) (tellGo d n i l p) (tellGo d' n i l (p + c))
  | 0, _, l, p => Sim.leaf _ _ _
  | n + 1, i, l, p => by
    rw [tellGo, tellGo]
    exact (num_sim H 3 p).bind (fun v q => tellGo_sim H n (i + 1) _ q)
theorem telling_sim {c : Nat} {d d' : List UInt8} (H : Held c d d') (n p : Nat) : Sim c (8 * d.length + c = 8 * d'.length) (telling d n p) (telling d' n (p + c)) := by
  refine (tellGo_sim H n 0 _ p).bind (fun l q => ?_)
  split
  · exact Sim.leaf _ _ _
  · exact Sim.error _ _
theorem run_sim {c : Nat} {d d' : List UInt8} (H : Held c d d') (s p : Nat) : Sim c (8 * d.length + c = 8 * d'.length) (run d s p) (run d' s (p + c)) := by
  unfold run
  split
  · exact (num_sim H _ p).bind (fun v q => Sim.leaf _ _ _)
  split
  · exact (num_sim H _ p).bind (fun v q => Sim.leaf _ _ _)
  split
  · exact (num_sim H _ p).bind (fun v q => Sim.leaf _ _ _)
  · exact Sim.leaf _ _ _
theorem toldStep_end {d : List UInt8} {cd : Code} {count p q : Nat} {l l' : List Nat} (h : toldStep d cd count l p = .ok (.inl l', q)) : q ≤ 8 * d.length := by
  unfold toldStep at h
  split at h
  · cases hs : sym d cd p with
    | error k => rw [hs] at h; cases h
    | ok okk =>
      obtain ⟨s, p1⟩ := okk
      have h1 := (sym_ok hs).2
      rw [hs] at h
      simp only [Out.bind] at h
      cases hr : run d s p1 with
      | error k => rw [hr] at h; cases h
      | ok okk =>
        obtain ⟨lt, p2⟩ := okk
        have h2 := (run_ok hr h1).2.1
        rw [hr] at h
        simp only at h
        split at h
        · cases h
        · split at h
          · cases h
          · cases h; exact h2
  · cases h
theorem told_sim {c : Nat} {d d' : List UInt8} (H : Held c d d') (cd : Code) (count p : Nat) : Sim c (8 * d.length + c = 8 * d'.length) (told d cd count p) (told d' cd count (p + c)) := by
  refine iter_sim H.len (fun s p => ?_) (fun s p s' q h => toldStep_end h) _ [] p (Nat.le_refl _)
  unfold toldStep
  split
  · refine (sym_sim H cd p).bind (fun x q => (run_sim H x q).bind (fun lt q2 => ?_))
    split
    · exact Sim.error _ _
    split
    · exact Sim.error _ _
    · exact Sim.leaf _ _ _
  · exact Sim.leaf _ _ _
theorem keys_sim {c : Nat} {d d' : List UInt8} (H : Held c d d') (p : Nat) : Sim c (8 * d.length + c = 8 * d'.length) (keys d p) (keys d' (p + c)) := by
  refine (num_sim H 5 p).bind (fun a q => (num_sim H 5 q).bind (fun b q2 => (num_sim H 4 q2).bind (fun e q3 => ?_)))
  split
  · exact Sim.error _ _
  · refine (telling_sim H _ q3).bind (fun tc q4 => (told_sim H tc _ q4).bind (fun l q5 => ?_))
    split
    · exact Sim.leaf _ _ _
    · exact Sim.error _ _

/-- Where a reader stands, c bits further behind. -/
def M.by (m : M) (c : Nat) : M := { m with pos := m.pos + c }

structure SimS (c : Nat) (ex : Prop) (r r' : Step) : Prop where
  ok : ∀ m, r = .ok m → r' = .ok (m.by c)
  bad : ∀ k o, r = .error (k, o) → k ≠ 2 ∨ ex → r' = .error (k, o)
theorem SimS.error {ex : Prop} (c k : Nat) (o : List UInt8) : SimS c ex (.error (k, o)) (.error (k, o)) := ⟨fun _ e => (by cases e), fun _ _ e _ => e⟩
theorem SimS.leaf {ex : Prop} (c : Nat) (m m' : M) (h : m' = m.by c) : SimS c ex (.ok m) (.ok m') := ⟨fun _ e => (by cases e; rw [h]), fun _ _ e => (by cases e)⟩
theorem SimS.ite {c : Nat} {ex p p' : Prop} [Decidable p] [Decidable p'] {a b a' b' : Step} (hp : p' ↔ p) (h1 : SimS c ex a a') (h2 : SimS c ex b b') : SimS c ex (if p then a else b) (if p' then a' else b') := by
  by_cases h : p
  · rw [if_pos h, if_pos (hp.mpr h)]; exact h1
  · rw [if_neg h, if_neg (fun h' => h (hp.mp h'))]; exact h2
theorem Sim.thenS {α : Type} {c : Nat} {ex : Prop} {r r' : Out α} {o : List UInt8} {f f' : α → Nat → Step} (h : Sim c ex r r') (hf : ∀ a q, SimS c ex (f a q) (f' a (q + c))) : SimS c ex (thenS r o f) (thenS r' o f') := by
  cases r with
  | error k => exact ⟨fun _ e => (by cases e), fun k' o' e hk => by cases e; rw [h.bad k rfl hk]; rfl⟩
  | ok okk => obtain ⟨a, q⟩ := okk; rw [h.ok a q rfl]; exact hf a q

theorem obeyS_sim {c : Nat} {d d' : List UInt8} (H : Held c d d') (lim : Nat) (t : Table) (m : M) (s p : Nat) : SimS c (8 * d.length + c = 8 * d'.length) (obeyS d lim t m s p) (obeyS d' lim t (m.by c) s (p + c)) := by
  unfold obeyS
  refine SimS.ite Iff.rfl (SimS.ite Iff.rfl (SimS.error _ _ _) (SimS.leaf _ _ _ rfl)) (SimS.ite Iff.rfl (SimS.leaf _ _ _ rfl) (SimS.ite Iff.rfl ?_ (SimS.error _ _ _)))
  refine (farBits_sim H t s p).thenS (fun vf q => ?_)
  unfold copyS
  exact SimS.ite Iff.rfl (SimS.error _ _ _) (SimS.ite Iff.rfl (SimS.error _ _ _) (SimS.leaf _ _ _ rfl))

theorem step_sim {c : Nat} {d d' : List UInt8} (H : Held c d d') (lim : Nat) (m : M) : SimS c (8 * d.length + c = 8 * d'.length) (step d lim m) (step d' lim (m.by c)) := by
  obtain ⟨pl, la, le, tab, asks, out, pos⟩ := m
  unfold step
  simp only [M.by]
  split
  · refine (headBits_sim H pos).thenS (fun ak q => ?_)
    unfold headS
    exact SimS.ite Iff.rfl (SimS.leaf _ _ _ rfl) (SimS.ite Iff.rfl (SimS.leaf _ _ _ rfl) (SimS.ite Iff.rfl (SimS.leaf _ _ _ rfl) (SimS.error _ _ _)))
  · exact (sizes_sim H pos).thenS (fun n q => SimS.leaf _ _ _ rfl)
  · refine SimS.ite Iff.rfl (SimS.leaf _ _ _ rfl) ((num_sim H 8 pos).thenS (fun v q => ?_))
    unfold byteS
    exact SimS.ite Iff.rfl (SimS.error _ _ _) (SimS.leaf _ _ _ rfl)
  · exact (keys_sim H pos).thenS (fun l q => SimS.leaf _ _ _ rfl)
  · cases tab with
    | none => exact SimS.error _ _ _
    | some t => exact (sym_sim H _ pos).thenS (fun s q => obeyS_sim H lim t _ s q)
  · exact SimS.error _ _ _

theorem held_app (d e : List UInt8) : Held 0 d (d ++ e) :=
  ⟨by rw [List.length_append]; omega, rfl, fun k h => by rw [Nat.add_zero]; exact (bit_app d e k h).symm⟩
theorem held_drop (d : List UInt8) (n : Nat) (h : n ≤ d.length) : Held (8 * n) (d.drop n) d := by
  refine ⟨by rw [List.length_drop]; omega, by omega, fun k hk => ?_⟩
  unfold bitv
  rw [show (k + 8 * n) / 8 = n + k / 8 by omega, show (k + 8 * n) % 8 = k % 8 by omega]
  simp [List.getD]

/-! More data: what the first steps come to stays. -/
theorem step_app (d e : List UInt8) (lim : Nat) {m m' : M} (h : step d lim m = .ok m') : step (d ++ e) lim m = .ok m' := (step_sim (held_app d e) lim m).ok m' h
theorem step_app_bad (d e : List UInt8) (lim : Nat) {m : M} {k : Nat} {o : List UInt8} (h : step d lim m = .error (k, o)) (hk : k ≠ 2) : step (d ++ e) lim m = .error (k, o) :=
  (step_sim (held_app d e) lim m).bad k o h (Or.inl hk)
/-! Bytes that were passed. -/
theorem step_drop (d : List UInt8) (n lim : Nat) (hn : n ≤ d.length) {m m' : M} (h : step (d.drop n) lim m = .ok m') : step d lim (m.by (8 * n)) = .ok (m'.by (8 * n)) := (step_sim (held_drop d n hn) lim m).ok m' h
theorem step_drop_bad (d : List UInt8) (n lim : Nat) (hn : n ≤ d.length) {m : M} {k : Nat} {o : List UInt8} (h : step (d.drop n) lim m = .error (k, o)) : step d lim (m.by (8 * n)) = .error (k, o) :=
  (step_sim (held_drop d n hn) lim m).bad k o h (Or.inr (by rw [List.length_drop]; omega))
end Gz
end Go.Proofs.YtjjjlilflbddoaaDoor
