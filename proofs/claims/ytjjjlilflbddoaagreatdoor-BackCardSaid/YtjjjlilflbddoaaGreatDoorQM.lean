import Derived.Test.YtjjjlilflbddoaaGreatDoorGPure
import Derived.KernelRfl
namespace Go.Proofs.YtjjjlilflbddoaaGreatDoor
namespace Gz

/-- r: what the whole data come to from bit p on; r': what their first L bits come to. -/
structure PreAt {α : Type} (L p : Nat) (r r' : Out α) : Prop where
  mono : ∀ a q, r = .ok (a, q) → p ≤ q
  same : p ≤ L → ∀ a q, r = .ok (a, q) → q ≤ L → r' = .ok (a, q)
  short : p ≤ L → ∀ a q, r = .ok (a, q) → L < q → r' = .error 2
  back : p ≤ L → ∀ a q, r' = .ok (a, q) → r = .ok (a, q) ∧ q ≤ L

theorem PreAt.bind {α β : Type} {L p : Nat} {r r' : Out α} {f f' : α → Nat → Out β} (h : PreAt L p r r') (hf : ∀ a q, PreAt L q (f a q) (f' a q)) : PreAt L p (r.bind f) (r'.bind f') := by
  refine ⟨fun b q2 e => ?_, fun hp b q2 e hq => ?_, fun hp b q2 e hq => ?_, fun hp b q2 e => ?_⟩
  · cases r with
    | error k => cases e
    | ok okk => obtain ⟨a, q⟩ := okk; exact Nat.le_trans (h.mono a q rfl) ((hf a q).mono b q2 e)
  · cases r with
    | error k => cases e
    | ok okk =>
      obtain ⟨a, q⟩ := okk
      have h2 := (hf a q).mono b q2 e
      rw [h.same hp a q rfl (by omega)]
      exact (hf a q).same (by omega) b q2 e hq
  · cases r with
    | error k => cases e
    | ok okk =>
      obtain ⟨a, q⟩ := okk
      by_cases hqL : q ≤ L
      · rw [h.same hp a q rfl hqL]
        exact (hf a q).short hqL b q2 e hq
      · rw [h.short hp a q rfl (by omega)]; rfl
  · cases r' with
    | error k => cases e
    | ok okk =>
      obtain ⟨a, q⟩ := okk
      obtain ⟨h1, h2⟩ := h.back hp a q rfl
      rw [h1]
      exact (hf a q).back h2 b q2 e
theorem PreAt.leaf {α : Type} (L p : Nat) (a : α) : PreAt L p (.ok (a, p)) (.ok (a, p)) :=
  ⟨fun _ _ e => by cases e; exact Nat.le_refl _, fun _ _ _ e _ => e, fun h _ _ e h2 => by cases e; omega, fun h _ _ e => by cases e; exact ⟨rfl, h⟩⟩
theorem PreAt.error {α : Type} (L p k : Nat) : PreAt (α := α) L p (.error k) (.error k) :=
  ⟨fun _ _ e => (by cases e), fun _ _ _ e => (by cases e), fun _ _ _ e => (by cases e), fun _ _ _ e => (by cases e)⟩
theorem PreAt.up {α : Type} {L p p' : Nat} {r r' : Out α} (h : PreAt L p' r r') (hp : p ≤ p') (hL : p ≤ L → p' ≤ L) : PreAt L p r r' :=
  ⟨fun a q e => Nat.le_trans hp (h.mono a q e), fun h1 => h.same (hL h1), fun h1 => h.short (hL h1), fun h1 => h.back (hL h1)⟩

/-! Room for more. -/

/-- r: what is come to under the limit lo; r': under a limit that is no lower; b: how much was put out before. -/
structure LimAt {α : Type} (lo b : Nat) (m : α → Nat) (r r' : Out α) : Prop where
  same : r ≠ .error 8 → r' = r
  more : r = .error 8 → ∀ a q, r' = .ok (a, q) → lo < m a
  grow : ∀ a q, r' = .ok (a, q) → b ≤ m a

theorem LimAt.pre {α β : Type} {lo b : Nat} {m : β → Nat} (r : Out α) {f f' : α → Nat → Out β} (h : ∀ a q, LimAt lo b m (f a q) (f' a q)) : LimAt lo b m (r.bind f) (r.bind f') := by
  cases r with
  | error k => exact ⟨fun _ => rfl, fun _ _ _ e => (by cases e), fun _ _ e => (by cases e)⟩
  | ok okk => obtain ⟨a, q⟩ := okk; exact h a q
theorem LimAt.post {α β : Type} {lo b : Nat} {m1 : α → Nat} {m : β → Nat} {r r' : Out α} (h : LimAt lo b m1 r r') (f : α → Nat → β) (hf : ∀ a q, m (f a q) = m1 a) : LimAt lo b m (r.bind fun a q => .ok ((f a q), q)) (r'.bind fun a q => .ok ((f a q), q)) := by
  refine ⟨fun hne => ?_, fun e a q e' => ?_, fun a q e' => ?_⟩
  · have : r ≠ .error 8 := fun e => hne (by rw [e]; rfl)
    rw [h.same this]
  · cases r with
    | ok okk => obtain ⟨a, q⟩ := okk; cases e
    | error k =>
      cases e
      cases r' with
      | error k => cases e'
      | ok okk => obtain ⟨x, q⟩ := okk; cases e'; rw [hf]; exact h.more rfl x _ rfl
  · cases r' with
    | error k => cases e'
    | ok okk => obtain ⟨x, q⟩ := okk; cases e'; rw [hf]; exact h.grow x _ rfl
theorem LimAt.leaf {α : Type} {lo b : Nat} {m : α → Nat} (a : α) (p : Nat) (h : b ≤ m a) : LimAt lo b m (.ok (a, p)) (.ok (a, p)) :=
  ⟨fun _ => rfl, fun e => (by cases e), fun _ _ e => (by cases e; exact h)⟩
theorem LimAt.error {α : Type} {lo b : Nat} {m : α → Nat} (k : Nat) : LimAt (α := α) lo b m (.error k) (.error k) :=
  ⟨fun _ => rfl, fun _ _ _ e => (by cases e), fun _ _ e => (by cases e)⟩

theorem iter_lim {σ ρ : Type} {N lo : Nat} {step step' : σ → Nat → Out (σ ⊕ ρ)} {ms : σ → Nat} {mr : ρ → Nat} (h : ∀ s p, LimAt lo (ms s) (Sum.elim ms mr) (step s p) (step' s p)) : ∀ n s p, N - p ≤ n → LimAt lo (ms s) mr (iter N step s p) (iter N step' s p) := by
  have key : ∀ s p, (∀ s' q, p < q → q ≤ N → LimAt lo (ms s') mr (iter N step s' q) (iter N step' s' q)) → LimAt lo (ms s) mr (iter N step s p) (iter N step' s p) := by
    intro s p ih
    have hs := h s p
    have hgrow : ∀ a q, iter N step' s p = .ok (a, q) → ms s ≤ mr a := by
      intro a q e
      rw [iter_eq] at e
      cases hst : step' s p with
      | error k => rw [hst] at e; cases e
      | ok okk =>
        obtain ⟨x, q1⟩ := okk
        have hg := hs.grow x q1 hst
        rw [hst] at e
        cases x with
        | inr r => cases e; exact hg
        | inl s' =>
          simp only at e
          split at e
          · rename_i hc; exact Nat.le_trans hg ((ih s' q1 hc.1 hc.2).grow a q e)
          · cases e
    have hcase : (step s p = .error 8) ∨ step' s p = step s p := by
      by_cases he : step s p = .error 8
      · exact .inl he
      · exact .inr (hs.same he)
    rcases hcase with he | he
    · have hi : iter N step s p = .error 8 := by rw [iter_eq, he]
      refine ⟨fun hne => absurd hi hne, fun _ a q e => ?_, hgrow⟩
      rw [iter_eq] at e
      cases hst : step' s p with
      | error k => rw [hst] at e; cases e
      | ok okk =>
        obtain ⟨x, q1⟩ := okk
        have hm := hs.more he x q1 hst
        rw [hst] at e
        cases x with
        | inr r => cases e; exact hm
        | inl s' =>
          simp only at e
          split at e
          · rename_i hc; exact Nat.lt_of_lt_of_le hm ((ih s' q1 hc.1 hc.2).grow a q e)
          · cases e
    · refine ⟨fun hne => ?_, fun e8 a q e => ?_, hgrow⟩
      · rw [iter_eq] at hne ⊢
        rw [iter_eq N step s p] 
        rw [he]
        cases hst : step s p with
        | error k => rfl
        | ok okk =>
          obtain ⟨x, q1⟩ := okk
          cases x with
          | inr r => rfl
          | inl s' =>
            rw [hst] at hne
            simp only at hne ⊢
            split
            · rename_i hc
              rw [if_pos hc] at hne
              exact (ih s' q1 hc.1 hc.2).same hne
            · rfl
      · rw [iter_eq] at e8 e
        rw [he] at e
        cases hst : step s p with
        | error k => rw [hst] at e; cases e
        | ok okk =>
          obtain ⟨x, q1⟩ := okk
          rw [hst] at e e8
          cases x with
          | inr r => cases e8
          | inl s' =>
            simp only at e e8
            split at e
            · rename_i hc
              rw [if_pos hc] at e8
              exact (ih s' q1 hc.1 hc.2).more e8 a q e
            · cases e
  intro n
  induction n with
  | zero => intro s p hn; exact key s p (fun s' q h1 h2 => by omega)
  | succ n ih => intro s p hn; exact key s p (fun s' q h1 h2 => ih s' q (by omega))

theorem copy_grow (lim far : Nat) : ∀ n out o, copyGo lim far n out = some o → out.length ≤ o.length
  | 0, out, o, h => by cases h; exact Nat.le_refl _
  | n + 1, out, o, h => by
    rw [copyGo] at h
    split at h
    · cases h
    · have := copy_grow lim far n _ o h
      simp at this; omega
theorem copy_lim (lo hi far : Nat) (hlh : lo ≤ hi) : ∀ n out, (∀ o, copyGo lo far n out = some o → copyGo hi far n out = some o) ∧ (copyGo lo far n out = none → ∀ o, copyGo hi far n out = some o → lo < o.length)
  | 0, out => ⟨fun _ h => h, fun h => by cases h⟩
  | n + 1, out => by
    have ih := copy_lim lo hi far hlh n (out ++ [out.getD (out.length - far) 0])
    rw [copyGo, copyGo]
    by_cases h : lo ≤ out.length
    · rw [if_pos h]
      refine ⟨fun o e => (by cases e), fun _ o e => ?_⟩
      split at e
      · cases e
      · have := copy_grow hi far n _ o e
        simp at this; omega
    · rw [if_neg h, if_neg (by omega)]
      exact ih
theorem rep_lim (d : List UInt8) (t : Table) (lo hi s : Nat) (hlh : lo ≤ hi) (out : List UInt8) (p : Nat) : LimAt lo out.length List.length (rep d t lo s out p) (rep d t hi s out p) := by
  refine LimAt.pre _ (fun v p1 => LimAt.pre _ (fun far p2 => ?_))
  split
  · exact LimAt.error _
  · have h := copy_lim lo hi far hlh (lenFrom.getD (s - 257) 0 + v) out
    cases h1 : copyGo lo far (lenFrom.getD (s - 257) 0 + v) out with
    | some o => rw [h.1 o h1]; exact LimAt.leaf _ _ (copy_grow lo far _ _ o h1)
    | none =>
      refine ⟨fun hne => absurd rfl hne, fun _ a q e => ?_, fun a q e => ?_⟩
      · cases h2 : copyGo hi far (lenFrom.getD (s - 257) 0 + v) out with
        | none => rw [h2] at e; cases e
        | some o => rw [h2] at e; cases e; exact h.2 h1 _ h2
      · cases h2 : copyGo hi far (lenFrom.getD (s - 257) 0 + v) out with
        | none => rw [h2] at e; cases e
        | some o => rw [h2] at e; cases e; exact copy_grow hi far _ _ _ h2
theorem obey_lim (d : List UInt8) (t : Table) (lo hi s : Nat) (hlh : lo ≤ hi) (out : List UInt8) (p : Nat) : LimAt lo out.length (fun o => o.1.length) (obey d t lo s out p) (obey d t hi s out p) := by
  unfold obey
  split
  · by_cases h : lo ≤ out.length
    · rw [if_pos h]
      refine ⟨fun hne => absurd rfl hne, fun _ a q e => ?_, fun a q e => ?_⟩
      · split at e
        · cases e
        · cases e; simp; omega
      · split at e
        · cases e
        · cases e; simp
    · rw [if_neg h, if_neg (by omega)]
      exact LimAt.leaf _ _ (by simp)
  split
  · exact LimAt.leaf _ _ (Nat.le_refl _)
  split
  · exact (rep_lim d t lo hi s hlh out p).post (fun o _ => (o, false)) (fun _ _ => rfl)
  · exact LimAt.error _
theorem syms_lim (d : List UInt8) (t : Table) (lo hi : Nat) (hlh : lo ≤ hi) (out : List UInt8) (p : Nat) : LimAt lo out.length List.length (syms d t lo out p) (syms d t hi out p) := by
  refine iter_lim (ms := List.length) (fun s p => ?_) _ out p (Nat.le_refl _)
  refine LimAt.pre _ (fun x q => (obey_lim d t lo hi x hlh s q).post (fun o _ => if o.2 then Sum.inr o.1 else Sum.inl o.1) (fun o _ => ?_))
  cases o.2 <;> rfl
theorem bytes_lim (d : List UInt8) (lo hi : Nat) (hlh : lo ≤ hi) : ∀ n out p, LimAt lo out.length List.length (bytes d lo n out p) (bytes d hi n out p)
  | 0, out, p => LimAt.leaf _ _ (Nat.le_refl _)
  | n + 1, out, p => by
    rw [bytes, bytes]
    refine LimAt.pre _ (fun v q => ?_)
    have ih := bytes_lim d lo hi hlh n (out ++ [UInt8.ofNat v]) q
    by_cases h : lo ≤ out.length
    · rw [if_pos h]
      refine ⟨fun hne => absurd rfl hne, fun _ a q e => ?_, fun a q e => ?_⟩
      · split at e
        · cases e
        · have := ih.grow a q e; simp at this; omega
      · split at e
        · cases e
        · have := ih.grow a q e; simp at this; omega
    · rw [if_neg h, if_neg (by omega)]
      exact ⟨ih.same, ih.more, fun a q e => by have := ih.grow a q e; simp at this; omega⟩
theorem goOn_lim (d : List UInt8) (lo hi : Nat) (hlh : lo ≤ hi) (s : St) (p : Nat) : LimAt lo s.out.length (Sum.elim (fun s => s.out.length) List.length) (goOn d lo s p) (goOn d hi s p) := by
  unfold goOn
  split
  · refine LimAt.pre _ (fun a q => LimAt.pre _ (fun k q2 => ?_))
    split
    · exact LimAt.leaf _ _ (Nat.le_refl _)
    split
    · exact LimAt.leaf _ _ (Nat.le_refl _)
    split
    · exact LimAt.leaf _ _ (Nat.le_refl _)
    · exact LimAt.error _
  · refine LimAt.post (m1 := List.length) (LimAt.pre _ (fun n q => LimAt.pre _ (fun m q2 => ?_))) (m := Sum.elim (fun s : St => s.out.length) List.length) (fun o _ => Sum.inl { s with place := ended s.last, out := o }) (fun _ _ => rfl)
    split
    · exact LimAt.error _
    · exact bytes_lim d lo hi hlh n s.out q2
  · exact LimAt.pre _ (fun t q => (syms_lim d t lo hi hlh s.out q).post (m := Sum.elim (fun s : St => s.out.length) List.length) (fun o _ => Sum.inl { s with place := ended s.last, out := o }) (fun _ _ => rfl))
  · exact (syms_lim d _ lo hi hlh s.out p).post (m := Sum.elim (fun s : St => s.out.length) List.length) (fun o _ => Sum.inl { s with place := ended s.last, out := o }) (fun _ _ => rfl)
  · exact LimAt.leaf _ _ (Nat.le_refl _)
theorem read_lim (d : List UInt8) (lo hi : Nat) (hlh : lo ≤ hi) : LimAt lo 0 List.length (read d lo) (read d hi) :=
  iter_lim (ms := fun s => s.out.length) (fun s p => goOn_lim d lo hi hlh s p) _ { place := .inl (false, false), last := false, out := [] } 0 (Nat.le_refl _)

/-! One input. -/
end Gz
end Go.Proofs.YtjjjlilflbddoaaGreatDoor
/-
  The reader as a machine of steps: what Pure says of whole parts, said step by step, with what was put out kept where a step fails.
-/
namespace Go.Proofs.YtjjjlilflbddoaaGreatDoor
namespace Gz

/-- Where a reader stands between two steps. -/
structure M where
  pl : Nat
  la : Bool
  le : Nat
  tab : Option Table
  asks : List (List Nat)
  out : List UInt8
  pos : Nat

/-- A step: where the reader stands behind it, or the number of what was met (0: there is no more) and all that was put out then. -/
abbrev Step : Type := Except (Nat × List UInt8) M

def M.start : M := { pl := 0, la := false, le := 0, tab := none, asks := [], out := [], pos := 0 }
def M.over (m : M) : M := { m with pl := if m.la then 5 else 0, tab := none }

def thenS {α : Type} (r : Out α) (out : List UInt8) (f : α → Nat → Step) : Step :=
  match r with
  | .error k => .error (k, out)
  | .ok (a, q) => f a q

def headBits (d : List UInt8) (p : Nat) : Out (Nat × Nat) := (num d 1 p).bind fun a p1 => (num d 2 p1).bind fun k p2 => .ok ((a, k), p2)
def sizes (d : List UInt8) (p : Nat) : Out Nat :=
  (num d 16 (8 * ((p + 7) / 8))).bind fun n p1 => (num d 16 p1).bind fun m p2 => if m + n ≠ 65535 then .error 4 else .ok (n, p2)
/-- The lengths of a block of kind 2. -/
def keys (d : List UInt8) (p : Nat) : Out (List Nat) :=
  (num d 5 p).bind fun a p1 => (num d 5 p1).bind fun b p2 => (num d 4 p2).bind fun c p3 =>
    if 286 < a + 257 ∨ 30 < b + 1 then .error 5 else
    (telling d (c + 4) p3).bind fun tc p4 => (told d tc (a + 257 + (b + 1)) p4).bind fun l p5 =>
      if check (wide (l.take (a + 257)) 288 ++ wide (l.drop (a + 257)) 32) then .ok ((wide (l.take (a + 257)) 288 ++ wide (l.drop (a + 257)) 32), p5) else .error 5
def farBits (d : List UInt8) (t : Table) (s p : Nat) : Out (Nat × Nat) := (num d (lenBits s) p).bind fun v p2 => (dist d t.dists p2).bind fun far p3 => .ok ((v, far), p3)

/-- What a copying puts out, the limit met or not. -/
def copyO (lim far : Nat) : Nat → List UInt8 → List UInt8
  | 0, out => out
  | n + 1, out => if lim ≤ out.length then out else copyO lim far n (out ++ [out.getD (out.length - far) 0])

/-- What a repetition has put out in the end, whatever was met. -/
def repO (d : List UInt8) (t : Table) (lim s : Nat) (out : List UInt8) (p : Nat) : List UInt8 :=
  match num d (lenBits s) p with
  | .error _ => out
  | .ok (v, p1) => match dist d t.dists p1 with
    | .error _ => out
    | .ok (far, _) => if out.length < far then out else copyO lim far (lenFrom.getD (s - 257) 0 + v) out

def headS (m : M) (ak : Nat × Nat) (q : Nat) : Step :=
  if ak.2 = 0 then .ok { m with pl := 1, la := ak.1 == 1, pos := q }
  else if ak.2 = 1 then .ok { m with pl := 4, la := ak.1 == 1, tab := some fixed, pos := q }
  else if ak.2 = 2 then .ok { m with pl := 3, la := ak.1 == 1, pos := q }
  else .error (3, m.out)
def byteS (lim : Nat) (m : M) (v q : Nat) : Step :=
  if lim ≤ m.out.length then .error (8, m.out) else .ok { m with le := m.le - 1, out := m.out ++ [UInt8.ofNat v], pos := q }
def copyS (lim s : Nat) (m : M) (vf : Nat × Nat) (q : Nat) : Step :=
  if m.out.length < vf.2 then .error (7, m.out)
  else if copyGo lim vf.2 (lenFrom.getD (s - 257) 0 + vf.1) m.out = none then .error (8, copyO lim vf.2 (lenFrom.getD (s - 257) 0 + vf.1) m.out)
  else .ok { m with out := copyO lim vf.2 (lenFrom.getD (s - 257) 0 + vf.1) m.out, pos := q }
def obeyS (d : List UInt8) (lim : Nat) (t : Table) (m : M) (s p : Nat) : Step :=
  if s < 256 then (if lim ≤ m.out.length then .error (8, m.out) else .ok { m with out := m.out ++ [UInt8.ofNat s], pos := p })
  else if s = 256 then .ok { m.over with pos := p }
  else if s ≤ 285 then thenS (farBits d t s p) m.out (copyS lim s m)
  else .error (6, m.out)

def step (d : List UInt8) (lim : Nat) (m : M) : Step :=
  match m.pl with
  | 0 => thenS (headBits d m.pos) m.out (headS m)
  | 1 => thenS (sizes d m.pos) m.out fun n q => .ok { m with pl := 2, le := n, pos := q }
  | 2 => if m.le = 0 then .ok m.over else thenS (num d 8 m.pos) m.out (byteS lim m)
  | 3 => thenS (keys d m.pos) m.out fun l q => .ok { m with pl := 4, tab := some (makeTable l), asks := m.asks ++ [l], pos := q }
  | 4 => match m.tab with
    | none => .error (99, m.out)
    | some t => thenS (sym d t.syms m.pos) m.out (obeyS d lim t m)
  | _ => .error (0, m.out)

/-- At most n steps. -/
def steps (d : List UInt8) (lim : Nat) : Nat → M → M
  | 0, m => m
  | n + 1, m => match step d lim m with
    | .ok m' => steps d lim n m'
    | .error _ => m

/-! The same bits elsewhere: data d, of which d' hold all bits c further behind, and maybe more (ex: no more). -/

structure Sim {α : Type} (c : Nat) (ex : Prop) (r r' : Out α) : Prop where
  ok : ∀ a q, r = .ok (a, q) → r' = .ok (a, q + c)
  bad : ∀ k, r = .error k → k ≠ 2 ∨ ex → r' = .error k

theorem Sim.bind {α β : Type} {c : Nat} {ex : Prop} {r r' : Out α} {f f' : α → Nat → Out β} (h : Sim c ex r r') (hf : ∀ a q, Sim c ex (f a q) (f' a (q + c))) : Sim c ex (r.bind f) (r'.bind f') := by
  refine ⟨fun b q2 e => ?_, fun k e hk => ?_⟩
  · cases r with
    | error k => cases e
    | ok okk => obtain ⟨a, q⟩ := okk; rw [h.ok a q rfl]; exact (hf a q).ok b q2 e
  · cases r with
    | error k' => cases e; rw [h.bad k rfl hk]; rfl
    | ok okk => obtain ⟨a, q⟩ := okk; rw [h.ok a q rfl]; exact (hf a q).bad k e hk
theorem Sim.leaf {α : Type} {ex : Prop} (c p : Nat) (a : α) : Sim c ex (.ok (a, p)) (.ok (a, p + c)) := ⟨fun _ _ e => by cases e; rfl, fun _ e => by cases e⟩
theorem Sim.error {α : Type} {ex : Prop} (c k : Nat) : Sim (α := α) c ex (.error k) (.error k) := ⟨fun _ _ e => (by cases e), fun _ e _ => e⟩

/-- d' hold the bits of d, c further behind. -/
structure Held (c : Nat) (d d' : List UInt8) : Prop where
  len : 8 * d.length + c ≤ 8 * d'.length
  eight : c % 8 = 0
  bit : ∀ k, k < 8 * d.length → bitv d' (k + c) = bitv d k

/-- Where a reader stands, c bits further behind. -/
def M.by (m : M) (c : Nat) : M := { m with pos := m.pos + c }

structure SimS (c : Nat) (ex : Prop) (r r' : Step) : Prop where
  ok : ∀ m, r = .ok m → r' = .ok (m.by c)
  bad : ∀ k o, r = .error (k, o) → k ≠ 2 ∨ ex → r' = .error (k, o)
theorem SimS.error {ex : Prop} (c k : Nat) (o : List UInt8) : SimS c ex (.error (k, o)) (.error (k, o)) := ⟨fun _ e => (by cases e), fun _ _ e _ => e⟩
theorem SimS.leaf {ex : Prop} (c : Nat) (m m' : M) (h : m' = m.by c) : SimS c ex (.ok m) (.ok m') := ⟨fun _ e => (by cases e; rw [h]), fun _ _ e => (by cases e)⟩
theorem Sim.thenS {α : Type} {c : Nat} {ex : Prop} {r r' : Out α} {o : List UInt8} {f f' : α → Nat → Step} (h : Sim c ex r r') (hf : ∀ a q, SimS c ex (f a q) (f' a (q + c))) : SimS c ex (thenS r o f) (thenS r' o f') := by
  cases r with
  | error k => exact ⟨fun _ e => (by cases e), fun k' o' e hk => by cases e; rw [h.bad k rfl hk]; rfl⟩
  | ok okk => obtain ⟨a, q⟩ := okk; rw [h.ok a q rfl]; exact hf a q

/-! More data: what the first steps come to stays. -/
/-! Bytes that were passed. -/
end Gz
end Go.Proofs.YtjjjlilflbddoaaGreatDoor
/-
  The machine's last state: it is reached by every road, more data lead on from it, and bytes that were passed do not matter.
-/
namespace Go.Proofs.YtjjjlilflbddoaaGreatDoor
namespace Gz

theorem bind_ok {α β : Type} {r : Out α} {f : α → Nat → Out β} {b : β} {q : Nat} (h : r.bind f = .ok (b, q)) : ∃ a p, r = .ok (a, p) ∧ f a p = .ok (b, q) := by
  cases r with
  | error k => cases h
  | ok okk => obtain ⟨a, p⟩ := okk; exact ⟨a, p, rfl, h⟩
theorem thenS_ok {α : Type} {r : Out α} {o : List UInt8} {f : α → Nat → Step} {m : M} (h : thenS r o f = .ok m) : ∃ a p, r = .ok (a, p) ∧ f a p = .ok m := by
  cases r with
  | error k => cases h
  | ok okk => obtain ⟨a, p⟩ := okk; exact ⟨a, p, rfl, h⟩
theorem headBits_ok {d : List UInt8} {p q : Nat} {x : Nat × Nat} (h : headBits d p = .ok (x, q)) : p < q ∧ q ≤ 8 * d.length := by
  obtain ⟨a, p1, h1, h⟩ := bind_ok h
  obtain ⟨k, p2, h2, h⟩ := bind_ok h
  have e1 := num_ok h1
  have e2 := num_ok h2
  cases h
  omega
theorem sizes_ok {d : List UInt8} {p q n : Nat} (h : sizes d p = .ok (n, q)) : p < q ∧ q ≤ 8 * d.length := by
  obtain ⟨a, p1, h1, h⟩ := bind_ok h
  obtain ⟨k, p2, h2, h⟩ := bind_ok h
  have e1 := num_ok h1
  have e2 := num_ok h2
  split at h
  · cases h
  · cases h; omega
theorem farBits_ok {d : List UInt8} {t : Table} {s p q : Nat} {x : Nat × Nat} (h : farBits d t s p = .ok (x, q)) : p ≤ q ∧ q ≤ 8 * d.length := by
  obtain ⟨a, p1, h1, h⟩ := bind_ok h
  obtain ⟨k, p2, h2, h⟩ := bind_ok h
  have e1 := num_ok h1
  have e2 := dist_ok h2
  cases h
  omega
theorem codes_keys (d : List UInt8) (p : Nat) : codes d p = (keys d p).bind fun l q => .ok ((makeTable l), q) := by
  unfold codes keys
  cases num d 5 p with
  | error k => rfl
  | ok x =>
    obtain ⟨a, p1⟩ := x
    simp only [Out.bind]
    cases num d 5 p1 with
    | error k => rfl
    | ok x =>
      obtain ⟨b, p2⟩ := x
      simp only
      cases num d 4 p2 with
      | error k => rfl
      | ok x =>
        obtain ⟨c, p3⟩ := x
        simp only
        split
        · rfl
        · cases telling d (c + 4) p3 with
          | error k => rfl
          | ok x =>
            obtain ⟨tc, p4⟩ := x
            simp only
            cases told d tc (a + 257 + (b + 1)) p4 with
            | error k => rfl
            | ok x =>
              obtain ⟨l, p5⟩ := x
              simp only
              split <;> rfl
theorem keys_ok {d : List UInt8} {p q : Nat} {l : List Nat} (h : keys d p = .ok (l, q)) : p < q ∧ q ≤ 8 * d.length :=
  codes_more (t := makeTable l) (by rw [codes_keys, h]; rfl)

/-- How many steps there are at most. -/
def rank (d : List UInt8) (m : M) : Nat := 2 * (8 * d.length - m.pos) + (if m.pl = 2 ∧ m.le = 0 then 1 else 0)
theorem rank_le (d : List UInt8) (m : M) : rank d m ≤ 2 * (8 * d.length - m.pos) + 1 := by unfold rank; split <;> omega
theorem rank_far {d : List UInt8} {m m' : M} (h : m.pos < m'.pos) (h2 : m'.pos ≤ 8 * d.length) : rank d m' < rank d m := by
  have := rank_le d m'
  have : 2 * (8 * d.length - m.pos) ≤ rank d m := by unfold rank; omega
  omega

theorem obeyS_ok {d : List UInt8} {lim : Nat} {t : Table} {m m' : M} {s p : Nat} (h : obeyS d lim t m s p = .ok m') (hp : p ≤ 8 * d.length) : p ≤ m'.pos ∧ m'.pos ≤ 8 * d.length := by
  unfold obeyS at h
  split at h
  · split at h
    · cases h
    · cases h; exact ⟨Nat.le_refl _, hp⟩
  split at h
  · cases h; exact ⟨Nat.le_refl _, hp⟩
  split at h
  · obtain ⟨x, q, h1, h⟩ := thenS_ok h
    have := farBits_ok h1
    unfold copyS at h
    split at h
    · cases h
    split at h
    · cases h
    · cases h; exact this
  · cases h

theorem step_less {d : List UInt8} {lim : Nat} {m m' : M} (h : step d lim m = .ok m') (hp : m.pos ≤ 8 * d.length) : m.pos ≤ m'.pos ∧ m'.pos ≤ 8 * d.length ∧ rank d m' < rank d m := by
  have far : m.pos < m'.pos ∧ m'.pos ≤ 8 * d.length → m.pos ≤ m'.pos ∧ m'.pos ≤ 8 * d.length ∧ rank d m' < rank d m := fun h => ⟨by omega, h.2, rank_far h.1 h.2⟩
  unfold step at h
  split at h
  · obtain ⟨x, q, h1, h⟩ := thenS_ok h
    have e := headBits_ok h1
    unfold headS at h
    split at h
    · cases h; exact far e
    split at h
    · cases h; exact far e
    split at h
    · cases h; exact far e
    · cases h
  · obtain ⟨x, q, h1, h⟩ := thenS_ok h
    have e := sizes_ok h1
    cases h; exact far e
  · rename_i hpl
    split at h
    · rename_i hle
      cases h
      refine ⟨Nat.le_refl _, hp, ?_⟩
      have r1 : rank d m = 2 * (8 * d.length - m.pos) + 1 := by unfold rank; rw [if_pos ⟨hpl, hle⟩]
      have h5 : m.over.pl ≠ 2 := by
        show (if m.la then 5 else 0) ≠ 2
        cases m.la <;> decide
      have r0 : rank d m.over = 2 * (8 * d.length - m.pos) + 0 := by unfold rank; rw [if_neg (fun hh => h5 hh.1)]; rfl
      omega
    · obtain ⟨x, q, h1, h⟩ := thenS_ok h
      have e := num_ok h1
      unfold byteS at h
      split at h
      · cases h
      · cases h; exact far ⟨by show m.pos < q; omega, e.2⟩
  · obtain ⟨x, q, h1, h⟩ := thenS_ok h
    have e := keys_ok h1
    cases h; exact far e
  · split at h
    · cases h
    · obtain ⟨x, q, h1, h⟩ := thenS_ok h
      have e := sym_ok h1
      have e2 := obeyS_ok h e.2
      exact far ⟨by omega, e2.2⟩
  · cases h

theorem steps_any (d : List UInt8) (lim : Nat) : ∀ (n n' : Nat) (m : M), rank d m ≤ n → rank d m ≤ n' → m.pos ≤ 8 * d.length → steps d lim n m = steps d lim n' m
  | 0, 0, _, _, _, _ => rfl
  | 0, n' + 1, m, h, _, hp => by
    rw [steps, steps]
    cases hs : step d lim m with
    | error e => rfl
    | ok m' => have := (step_less hs hp).2.2; omega
  | n + 1, 0, m, _, h, hp => by
    rw [steps, steps]
    cases hs : step d lim m with
    | error e => rfl
    | ok m' => have := (step_less hs hp).2.2; omega
  | n + 1, n' + 1, m, h, h', hp => by
    rw [steps, steps]
    cases hs : step d lim m with
    | error e => rfl
    | ok m' =>
      have e := step_less hs hp
      exact steps_any d lim n n' m' (by omega) (by omega) e.2.1

/-- Where all the steps that can be made lead. -/
def final (d : List UInt8) (lim : Nat) (m : M) : M := steps d lim (rank d m) m

theorem final_ok {d : List UInt8} {lim : Nat} {m m' : M} (h : step d lim m = .ok m') (hp : m.pos ≤ 8 * d.length) : final d lim m = final d lim m' := by
  have e := step_less h hp
  obtain ⟨n, hn⟩ : ∃ n, rank d m = n + 1 := ⟨rank d m - 1, by omega⟩
  unfold final
  rw [hn, steps, h]
  exact steps_any d lim n _ m' (by omega) (Nat.le_refl _) e.2.1
theorem final_bad {d : List UInt8} {lim : Nat} {m : M} {e : Nat × List UInt8} (h : step d lim m = .error e) : final d lim m = m := by
  unfold final
  cases rank d m with
  | zero => rfl
  | succ n => rw [steps, h]

/-- From the last state back to the first. -/
theorem final_ind {d : List UInt8} {lim : Nat} {P : M → Prop} (hb : ∀ m e, m.pos ≤ 8 * d.length → step d lim m = .error e → P m) (ho : ∀ m m', m.pos ≤ 8 * d.length → step d lim m = .ok m' → P m' → P m) : ∀ m, m.pos ≤ 8 * d.length → P m := by
  have key : ∀ n m, rank d m ≤ n → m.pos ≤ 8 * d.length → P m := by
    intro n
    induction n with
    | zero =>
      intro m hr hp
      cases hs : step d lim m with
      | error e => exact hb m e hp hs
      | ok m' => have := (step_less hs hp).2.2; omega
    | succ n ih =>
      intro m hr hp
      cases hs : step d lim m with
      | error e => exact hb m e hp hs
      | ok m' => have e := step_less hs hp; exact ho m m' hp hs (ih m' (by omega) e.2.1)
  exact fun m hp => key _ m (Nat.le_refl _) hp

theorem final_pos (d : List UInt8) (lim : Nat) : ∀ m, m.pos ≤ 8 * d.length → m.pos ≤ (final d lim m).pos ∧ (final d lim m).pos ≤ 8 * d.length :=
  final_ind (fun m e hp h => by rw [final_bad h]; exact ⟨Nat.le_refl _, hp⟩) (fun m m' hp h ih => by rw [final_ok h hp]; have := step_less h hp; exact ⟨by omega, ih.2⟩)

/-! What was put out only grows. -/
theorem copyO_grow (lim far : Nat) : ∀ n out, ∃ x, copyO lim far n out = out ++ x
  | 0, out => ⟨[], by rw [copyO, List.append_nil]⟩
  | n + 1, out => by
    rw [copyO]
    split
    · exact ⟨[], by rw [List.append_nil]⟩
    · obtain ⟨x, hx⟩ := copyO_grow lim far n (out ++ [out.getD (out.length - far) 0])
      exact ⟨[out.getD (out.length - far) 0] ++ x, by rw [hx, List.append_assoc]⟩
end Gz
end Go.Proofs.YtjjjlilflbddoaaGreatDoor
/-
  The machine of steps and the reader by parts (Pure) come to the same.
-/
namespace Go.Proofs.YtjjjlilflbddoaaGreatDoor
namespace Gz

/-- What all the steps come to: what was put out and the bit behind it, or the number of what was met. -/
def endOf (d : List UInt8) (lim : Nat) (m : M) : Out (List UInt8) :=
  match step d lim (final d lim m) with
  | .error (0, o) => .ok (o, (final d lim m).pos)
  | .error (k + 1, _) => .error (k + 1)
  | .ok _ => .error 99

theorem endOf_ok {d : List UInt8} {lim : Nat} {m m' : M} (h : step d lim m = .ok m') (hp : m.pos ≤ 8 * d.length) : endOf d lim m = endOf d lim m' := by
  unfold endOf; rw [final_ok h hp]
theorem endOf_bad {d : List UInt8} {lim : Nat} {m : M} {k : Nat} {o : List UInt8} (h : step d lim m = .error (k, o)) (hk : k ≠ 0) : endOf d lim m = .error k := by
  unfold endOf
  rw [final_bad h, h]
  cases k with
  | zero => exact absurd rfl hk
  | succ k => rfl
theorem endOf_end {d : List UInt8} {lim : Nat} {m : M} (h : m.pl = 5) : endOf d lim m = .ok (m.out, m.pos) := by
  have hs : step d lim m = .error (0, m.out) := by unfold step; rw [h]; rfl
  unfold endOf
  rw [final_bad hs, hs]

theorem num_bad {d : List UInt8} {n p k : Nat} (h : num d n p = .error k) : k = 2 := by
  unfold num at h; split at h
  · cases h
  · cases h; rfl
theorem dist_bad {d : List UInt8} {c : Code} {p k : Nat} (h : dist d c p = .error k) : k ≠ 0 := by
  unfold dist at h
  cases hs : sym d c p with
  | error k' => rw [hs] at h; cases h; rcases symGo_bad _ _ _ _ _ _ _ _ _ hs with e | e <;> omega
  | ok x =>
    obtain ⟨s, q⟩ := x
    rw [hs] at h
    simp only [Out.bind] at h
    split at h
    · cases h; omega
    · cases hn : num d (distBits s) q with
      | error k' => rw [hn] at h; cases h; have := num_bad hn; omega
      | ok y => rw [hn] at h; cases h

theorem copyO_eq (lim far : Nat) : ∀ n out o, copyGo lim far n out = some o → copyO lim far n out = o
  | 0, out, o, h => by rw [copyGo] at h; cases h; rfl
  | n + 1, out, o, h => by
    rw [copyGo] at h
    rw [copyO]
    split at h
    · cases h
    · rename_i hh; rw [if_neg hh]; exact copyO_eq lim far n _ o h

/-- What a symbol says, both ways. -/
theorem obeyS_eq (d : List UInt8) (lim : Nat) (t : Table) (m : M) (s p : Nat) :
    match obey d t lim s m.out p with
    | .error k => k ≠ 0 ∧ ∃ o, obeyS d lim t m s p = .error (k, o)
    | .ok ((o, b), q) => obeyS d lim t m s p = .ok (if b then { m.over with out := o, pos := q } else { m with out := o, pos := q }) := by
  unfold obey obeyS
  by_cases h1 : s < 256
  · rw [if_pos h1, if_pos h1]
    by_cases h2 : lim ≤ m.out.length
    · rw [if_pos h2, if_pos h2]; exact ⟨by omega, _, rfl⟩
    · rw [if_neg h2, if_neg h2]; rfl
  rw [if_neg h1, if_neg h1]
  by_cases h2 : s = 256
  · rw [if_pos h2, if_pos h2]; rfl
  rw [if_neg h2, if_neg h2]
  by_cases h3 : s ≤ 285
  · rw [if_pos h3, if_pos h3]
    unfold rep farBits
    cases hn : num d (lenBits s) p with
    | error k => have := num_bad hn; exact ⟨by omega, _, rfl⟩
    | ok x =>
      obtain ⟨v, p1⟩ := x
      simp only [Out.bind]
      cases hd : dist d t.dists p1 with
      | error k => have := dist_bad hd; exact ⟨this, _, rfl⟩
      | ok x =>
        obtain ⟨far, p2⟩ := x
        simp only [thenS, copyS]
        by_cases h4 : m.out.length < far
        · rw [if_pos h4, if_pos h4]; exact ⟨by omega, _, rfl⟩
        · rw [if_neg h4, if_neg h4]
          cases hc : copyGo lim far (lenFrom.getD (s - 257) 0 + v) m.out with
          | none => exact ⟨by omega, _, rfl⟩
          | some o => simp; exact copyO_eq _ _ _ _ _ hc
  · rw [if_neg h3, if_neg h3]; exact ⟨by omega, _, rfl⟩

theorem syms_end (d : List UInt8) (lim : Nat) (t : Table) : ∀ n m, 8 * d.length - m.pos ≤ n → m.pl = 4 → m.tab = some t → m.pos ≤ 8 * d.length →
    endOf d lim m = (syms d t lim m.out m.pos).bind fun o q => endOf d lim { m.over with out := o, pos := q } := by
  have key : ∀ m, m.pl = 4 → m.tab = some t → m.pos ≤ 8 * d.length → (∀ m', m.pos < m'.pos → m'.pl = 4 → m'.tab = some t → m'.pos ≤ 8 * d.length → m'.la = m.la → m'.le = m.le → m'.asks = m.asks →
      endOf d lim m' = (syms d t lim m'.out m'.pos).bind fun o q => endOf d lim { m'.over with out := o, pos := q }) →
      endOf d lim m = (syms d t lim m.out m.pos).bind fun o q => endOf d lim { m.over with out := o, pos := q } := by
    intro m hpl htb hp ih
    have hst : step d lim m = thenS (sym d t.syms m.pos) m.out (obeyS d lim t m) := by unfold step; rw [hpl]; simp only [htb]
    have hsy : syms d t lim m.out m.pos = iter (8 * d.length) (symsStep d t lim) m.out m.pos := rfl
    cases hs : sym d t.syms m.pos with
    | error k =>
      rw [hs] at hst
      have hk : k ≠ 0 := by rcases symGo_bad _ _ _ _ _ _ _ _ _ hs with e | e <;> omega
      rw [endOf_bad hst hk, hsy, iter_bad (k := k) (by unfold symsStep; rw [hs]; rfl)]
      rfl
    | ok x =>
      obtain ⟨s, q⟩ := x
      have hq := sym_ok hs
      rw [hs] at hst
      have hst : step d lim m = obeyS d lim t m s q := hst
      have ho := obeyS_eq d lim t m s q
      cases hob : obey d t lim s m.out q with
      | error k =>
        rw [hob] at ho
        obtain ⟨hk, o, ho⟩ := ho
        rw [endOf_bad (hst.trans ho) hk, hsy, iter_bad (k := k) (by unfold symsStep; rw [hs]; simp only [Out.bind]; rw [hob])]
        rfl
      | ok y =>
        obtain ⟨⟨o, b⟩, q2⟩ := y
        have hq2 := obey_ok hob hq.2
        rw [hob] at ho
        have hss : symsStep d t lim m.out m.pos = .ok ((if b then .inr o else .inl o), q2) := by unfold symsStep; rw [hs]; simp only [Out.bind]; rw [hob]
        rw [endOf_ok (hst.trans ho) hp, hsy]
        cases b with
        | true => rw [iter_end hss]; rfl
        | false =>
          rw [iter_more hss (by omega) hq2.2]
          exact ih { m with out := o, pos := q2 } (by show m.pos < q2; omega) hpl htb hq2.2 rfl rfl rfl
  intro n
  induction n with
  | zero => intro m hn hpl htb hp; exact key m hpl htb hp (fun m' h1 _ _ h2 _ _ _ => by omega)
  | succ n ih => intro m hn hpl htb hp; exact key m hpl htb hp (fun m' h1 h2 h3 h4 _ _ _ => ih m' (by omega) h2 h3 h4)

theorem bytes_end (d : List UInt8) (lim : Nat) : ∀ n m, m.le = n → m.pl = 2 → m.pos ≤ 8 * d.length →
    endOf d lim m = (bytes d lim n m.out m.pos).bind fun o q => endOf d lim { m.over with le := 0, out := o, pos := q }
  | 0, m, hle, hpl, hp => by
    have hst : step d lim m = .ok m.over := by unfold step; rw [hpl]; simp only [hle, if_true]
    rw [endOf_ok hst hp, bytes]
    obtain ⟨pl, la, le, tab, asks, out, pos⟩ := m
    cases hle
    rfl
  | n + 1, m, hle, hpl, hp => by
    have hst : step d lim m = thenS (num d 8 m.pos) m.out (byteS lim m) := by
      unfold step; rw [hpl]; simp only; rw [if_neg (by omega)]
    rw [bytes]
    cases hn : num d 8 m.pos with
    | error k => rw [hn] at hst; have := num_bad hn; rw [endOf_bad hst (by omega)]; rfl
    | ok x =>
      obtain ⟨v, q⟩ := x
      have hq := num_ok hn
      rw [hn] at hst
      have hst : step d lim m = byteS lim m v q := hst
      simp only [Out.bind]
      unfold byteS at hst
      by_cases hl : lim ≤ m.out.length
      · rw [if_pos hl] at hst; rw [if_pos hl, endOf_bad hst (by omega)]
      · rw [if_neg hl] at hst
        rw [if_neg hl, endOf_ok hst hp]
        exact bytes_end d lim n { m with le := m.le - 1, out := m.out ++ [UInt8.ofNat v], pos := q } (by show m.le - 1 = n; omega) hpl hq.2

theorem stored_parts (d : List UInt8) (lim : Nat) (out : List UInt8) (p : Nat) : stored d lim out p = (sizes d p).bind fun n q => bytes d lim n out q := by
  unfold stored sizes
  cases num d 16 (8 * ((p + 7) / 8)) with
  | error k => rfl
  | ok x =>
    obtain ⟨n, p1⟩ := x
    simp only [Out.bind]
    cases num d 16 p1 with
    | error k => rfl
    | ok x =>
      obtain ⟨m, p2⟩ := x
      simp only
      split <;> rfl
theorem sizes_bad {d : List UInt8} {p k : Nat} (h : sizes d p = .error k) : k ≠ 0 := by
  unfold sizes at h
  cases h1 : num d 16 (8 * ((p + 7) / 8)) with
  | error k' => rw [h1] at h; cases h; have := num_bad h1; omega
  | ok x =>
    obtain ⟨n, p1⟩ := x
    rw [h1] at h
    simp only [Out.bind] at h
    cases h2 : num d 16 p1 with
    | error k' => rw [h2] at h; cases h; have := num_bad h2; omega
    | ok x =>
      obtain ⟨m, p2⟩ := x
      rw [h2] at h
      simp only at h
      split at h
      · cases h; omega
      · cases h

/-- Where the reader by parts stands, seen by the machine. -/
def M.at_ (m : M) (s : St) (p : Nat) : Prop := m.la = s.last ∧ m.out = s.out ∧ m.pos = p ∧
  match s.place with
  | .inl (false, false) => m.pl = 0
  | .inl (false, true) => m.pl = 1
  | .inl (true, false) => m.pl = 3
  | .inl (true, true) => m.pl = 5
  | .inr t => m.pl = 4 ∧ m.tab = some t

theorem at_over {m : M} {la : Bool} {out : List UInt8} {p : Nat} (h1 : m.la = la) (h2 : m.out = out) (h3 : m.pos = p) (h4 : m.pl = if la then 5 else 0) : m.at_ { place := ended la, last := la, out := out } p := by
  refine ⟨h1, h2, h3, ?_⟩
  unfold ended
  cases la with
  | true => exact h4
  | false => exact h4

/-- No fault has the number 0. -/
def NZ {α : Type} (r : Out α) : Prop := ∀ k, r = .error k → k ≠ 0
theorem NZ.bind {α β : Type} {r : Out α} {f : α → Nat → Out β} (h : NZ r) (hf : ∀ a q, NZ (f a q)) : NZ (r.bind f) := by
  intro k e
  cases r with
  | error k' => cases e; exact h k rfl
  | ok x => obtain ⟨a, q⟩ := x; exact hf a q k e
theorem NZ.leaf {α : Type} (x : α × Nat) : NZ (.ok x) := fun k e => by cases e
theorem NZ.err {α : Type} (k : Nat) (h : k ≠ 0) : NZ (α := α) (.error k) := fun k' e => by cases e; exact h
theorem nz_num (d : List UInt8) (n p : Nat) : NZ (num d n p) := fun k e => by have := num_bad e; omega
theorem nz_sym (d : List UInt8) (c : Code) (p : Nat) : NZ (sym d c p) := fun k e => by rcases symGo_bad _ _ _ _ _ _ _ _ _ e with h | h <;> omega
theorem nz_iter {σ ρ : Type} {N : Nat} {step : σ → Nat → Out (σ ⊕ ρ)} (h : ∀ s p, NZ (step s p)) : ∀ n s p, NZ (iterN N step n s p) := by
  intro n
  induction n with
  | zero =>
    intro s p k e
    rw [iterN] at e
    cases hs : step s p with
    | error k' => rw [hs] at e; cases e; exact h s p k hs
    | ok x =>
      obtain ⟨y, q⟩ := x
      rw [hs] at e
      cases y with
      | inr r => cases e
      | inl s' => cases e; omega
  | succ n ih =>
    intro s p k e
    rw [iterN] at e
    cases hs : step s p with
    | error k' => rw [hs] at e; cases e; exact h s p k hs
    | ok x =>
      obtain ⟨y, q⟩ := x
      rw [hs] at e
      cases y with
      | inr r => cases e
      | inl s' =>
        simp only at e
        split at e
        · exact ih s' q k e
        · cases e; omega
theorem nz_tellGo (d : List UInt8) : ∀ n i l p, NZ (tellGo d n i l p)
  | 0, _, _, _ => NZ.leaf _
  | n + 1, i, l, p => by rw [tellGo]; exact (nz_num d 3 p).bind (fun _ _ => nz_tellGo d n _ _ _)
theorem nz_telling (d : List UInt8) (n p : Nat) : NZ (telling d n p) := by
  refine (nz_tellGo d n 0 _ p).bind (fun l q => ?_)
  split
  · exact NZ.leaf _
  · exact NZ.err 5 (by omega)
theorem nz_told (d : List UInt8) (c : Code) (count p : Nat) : NZ (told d c count p) := by
  refine nz_iter (fun s p => ?_) _ _ _
  unfold toldStep
  split
  · refine (nz_sym d c p).bind (fun x q => NZ.bind (fun k e => by have := run_bad e; omega) (fun lt q2 => ?_))
    split
    · exact NZ.err 5 (by omega)
    split
    · exact NZ.err 5 (by omega)
    · exact NZ.leaf _
  · exact NZ.leaf _
theorem nz_keys (d : List UInt8) (p : Nat) : NZ (keys d p) := by
  refine (nz_num d 5 p).bind (fun a q => (nz_num d 5 q).bind (fun b q2 => (nz_num d 4 q2).bind (fun e q3 => ?_)))
  split
  · exact NZ.err 5 (by omega)
  · refine (nz_telling d _ q3).bind (fun tc q4 => (nz_told d tc _ q4).bind (fun l q5 => ?_))
    split
    · exact NZ.leaf _
    · exact NZ.err 5 (by omega)

theorem read_at (d : List UInt8) (lim : Nat) : ∀ n s p m, 8 * d.length - p ≤ n → M.at_ m s p → p ≤ 8 * d.length → iter (8 * d.length) (goOn d lim) s p = endOf d lim m := by
  have key : ∀ s p m, M.at_ m s p → p ≤ 8 * d.length → (∀ s' q m', p < q → q ≤ 8 * d.length → M.at_ m' s' q → iter (8 * d.length) (goOn d lim) s' q = endOf d lim m') → iter (8 * d.length) (goOn d lim) s p = endOf d lim m := by
    intro s p m hm hp ih
    obtain ⟨place, last, out⟩ := s
    obtain ⟨pl, la, le, tab, asks, mo, pos⟩ := m
    obtain ⟨h1, h2, h3, h4⟩ := hm
    simp only at h1 h2 h3 h4
    subst h1 h2 h3
    rcases place with ⟨a, b⟩ | t
    · cases a with
      | false =>
        cases b with
        | false =>
          simp only at h4
          subst h4
          have hst : step d lim { pl := 0, la := la, le := le, tab := tab, asks := asks, out := mo, pos := pos } = thenS (headBits d pos) mo (headS { pl := 0, la := la, le := le, tab := tab, asks := asks, out := mo, pos := pos }) := rfl
          have hgo : goOn d lim { place := .inl (false, false), last := la, out := mo } pos = (headBits d pos).bind fun ak p2 =>
              if ak.2 = 0 then .ok ((.inl { place := .inl (false, true), last := ak.1 == 1, out := mo }), p2)
              else if ak.2 = 1 then .ok ((.inl { place := .inr fixed, last := ak.1 == 1, out := mo }), p2)
              else if ak.2 = 2 then .ok ((.inl { place := .inl (true, false), last := ak.1 == 1, out := mo }), p2)
              else .error 3 := by
            unfold goOn headBits
            simp only
            cases num d 1 pos with
            | error k => rfl
            | ok x =>
              obtain ⟨a, p1⟩ := x
              simp only [Out.bind]
              cases num d 2 p1 with
              | error k => rfl
              | ok x => rfl
          cases hh : headBits d pos with
          | error k =>
            rw [hh] at hst hgo
            have hk : k ≠ 0 := ((nz_num d 1 pos).bind (fun a q => (nz_num d 2 q).bind (fun _ _ => NZ.leaf _))) k hh
            rw [iter_bad (k := k) hgo, endOf_bad hst hk]
          | ok x =>
            obtain ⟨ak, q⟩ := x
            have hq := headBits_ok hh
            rw [hh] at hst hgo
            simp only [Out.bind] at hgo
            simp only [thenS, headS] at hst
            by_cases k0 : ak.2 = 0
            · rw [if_pos k0] at hst hgo
              rw [iter_more hgo hq.1 hq.2, endOf_ok hst hp]
              exact ih _ q _ hq.1 hq.2 ⟨rfl, rfl, rfl, rfl⟩
            rw [if_neg k0] at hst hgo
            by_cases k1 : ak.2 = 1
            · rw [if_pos k1] at hst hgo
              rw [iter_more hgo hq.1 hq.2, endOf_ok hst hp]
              exact ih _ q _ hq.1 hq.2 ⟨rfl, rfl, rfl, rfl, rfl⟩
            rw [if_neg k1] at hst hgo
            by_cases k2 : ak.2 = 2
            · rw [if_pos k2] at hst hgo
              rw [iter_more hgo hq.1 hq.2, endOf_ok hst hp]
              exact ih _ q _ hq.1 hq.2 ⟨rfl, rfl, rfl, rfl⟩
            rw [if_neg k2] at hst hgo
            rw [iter_bad hgo, endOf_bad hst (by omega)]
        | true =>
          simp only at h4
          subst h4
          have hst : step d lim { pl := 1, la := la, le := le, tab := tab, asks := asks, out := mo, pos := pos } = thenS (sizes d pos) mo fun n q => .ok { pl := 2, la := la, le := n, tab := tab, asks := asks, out := mo, pos := q } := rfl
          have hgo : goOn d lim { place := .inl (false, true), last := la, out := mo } pos = (stored d lim mo pos).bind fun o p1 => .ok ((.inl { place := ended la, last := la, out := o }), p1) := rfl
          have hE : endOf d lim { pl := 1, la := la, le := le, tab := tab, asks := asks, out := mo, pos := pos } = (stored d lim mo pos).bind fun o q => endOf d lim { pl := if la then 5 else 0, la := la, le := 0, tab := none, asks := asks, out := o, pos := q } := by
            rw [stored_parts]
            cases hz : sizes d pos with
            | error k => rw [hz] at hst; rw [endOf_bad hst (sizes_bad hz)]; rfl
            | ok x =>
              obtain ⟨n, q⟩ := x
              rw [hz] at hst
              rw [endOf_ok hst hp]
              exact bytes_end d lim n _ rfl rfl (sizes_ok hz).2
          rw [hE]
          cases hs : stored d lim mo pos with
          | error k => rw [hs] at hgo; exact iter_bad hgo
          | ok x =>
            obtain ⟨o, q⟩ := x
            have hq := stored_more hs
            rw [hs] at hgo
            rw [iter_more hgo hq.1 hq.2]
            exact ih _ q _ hq.1 hq.2 (at_over rfl rfl rfl rfl)
      | true =>
        cases b with
        | false =>
          simp only at h4
          subst h4
          have hst : step d lim { pl := 3, la := la, le := le, tab := tab, asks := asks, out := mo, pos := pos } = thenS (keys d pos) mo fun l q => .ok { pl := 4, la := la, le := le, tab := some (makeTable l), asks := asks ++ [l], out := mo, pos := q } := rfl
          have hgo : goOn d lim { place := .inl (true, false), last := la, out := mo } pos = (codes d pos).bind fun t p1 => (syms d t lim mo p1).bind fun o p2 => .ok ((.inl { place := ended la, last := la, out := o }), p2) := rfl
          rw [codes_keys] at hgo
          cases hz : keys d pos with
          | error k => rw [hz] at hst hgo; rw [endOf_bad hst (nz_keys d pos k hz)]; exact iter_bad hgo
          | ok x =>
            obtain ⟨l, q⟩ := x
            have hq := keys_ok hz
            rw [hz] at hst hgo
            simp only [Out.bind] at hgo
            rw [endOf_ok hst hp, syms_end d lim (makeTable l) _ _ (Nat.le_refl _) rfl rfl hq.2]
            simp only
            cases hs : syms d (makeTable l) lim mo q with
            | error k => rw [hs] at hgo; exact iter_bad hgo
            | ok x =>
              obtain ⟨o, q2⟩ := x
              have hq2 := syms_more hs hq.2
              rw [hs] at hgo
              rw [iter_more hgo (by omega) hq2.2]
              exact ih _ q2 _ (by omega) hq2.2 (at_over rfl rfl rfl rfl)
        | true =>
          simp only at h4
          subst h4
          rw [endOf_end rfl]
          exact iter_end rfl
    · simp only at h4
      obtain ⟨h4, h5⟩ := h4
      subst h4 h5
      have hgo : goOn d lim { place := .inr t, last := la, out := mo } pos = (syms d t lim mo pos).bind fun o p1 => .ok ((.inl { place := ended la, last := la, out := o }), p1) := rfl
      rw [syms_end d lim t _ _ (Nat.le_refl _) rfl rfl hp]
      simp only
      cases hs : syms d t lim mo pos with
      | error k => rw [hs] at hgo; exact iter_bad hgo
      | ok x =>
        obtain ⟨o, q2⟩ := x
        have hq2 := syms_more hs hp
        rw [hs] at hgo
        rw [iter_more hgo hq2.1 hq2.2]
        exact ih _ q2 _ hq2.1 hq2.2 (at_over rfl rfl rfl rfl)
  intro n
  induction n with
  | zero => intro s p m hn hm hp; exact key s p m hm hp (fun s' q m' h1 h2 _ => by omega)
  | succ n ih => intro s p m hn hm hp; exact key s p m hm hp (fun s' q m' h1 h2 hm' => ih s' q m' (by omega) hm' h2)

/-- The reader by parts and the machine of steps come to the same. -/
theorem read_final (d : List UInt8) (lim : Nat) : read d lim = endOf d lim M.start :=
  read_at d lim _ _ 0 M.start (Nat.le_refl _) ⟨rfl, rfl, rfl, rfl⟩ (Nat.zero_le _)
end Gz
end Go.Proofs.YtjjjlilflbddoaaGreatDoor
