import Derived.Test.YtjjjlilflbddoaaDoorPure
import Derived.KernelRfl
namespace Go.Proofs.YtjjjlilflbddoaaDoor
namespace Gz

/-- r: what the whole data come to from bit p on; r': what their first L bits come to. -/
structure PreAt {α : Type} (L p : Nat) (r r' : Out α) : Prop where
  mono : ∀ a q, r = .ok (a, q) → p ≤ q
  same : p ≤ L → ∀ a q, r = .ok (a, q) → q ≤ L → r' = .ok (a, q)
  short : p ≤ L → ∀ a q, r = .ok (a, q) → L < q → r' = .error 2
  back : p ≤ L → ∀ a q, r' = .ok (a, q) → r = .ok (a, q) ∧ q ≤ L

theorem PreAt.bind {α β : Type} {L p : Nat} {r r' : Out α} {f f' : α → Nat → Out β} (h : PreAt L p r r') (hf : ∀ a q, PreAt L q (f a q) (f' a q)) : PreAt L p (r.bind f) (r'.bind f') := by
  refine ⟨fun b q2 e => ?_, fun hp b q2 e hq => ?_, fun hp b q2 e hq => ?_, fun hp b q2 e => ?_⟩
  · cases r with
    | error k => cases e
    | ok okk => obtain ⟨a, q⟩ := okk; exact Nat.le_trans (h.mono a q rfl) ((hf a q).mono b q2 e)
  · cases r with
    | error k => cases e
    | ok okk =>
      obtain ⟨a, q⟩ := okk
      have h2 := (hf a q).mono b q2 e
      rw [h.same hp a q rfl (by omega)]
      exact (hf a q).same (by omega) b q2 e hq
  · cases r with
    | error k => cases e
    | ok okk =>
      obtain ⟨a, q⟩ := okk
      by_cases hqL : q ≤ L
      · rw [h.same hp a q rfl hqL]
        exact (hf a q).short hqL b q2 e hq
      · rw [h.short hp a q rfl (by omega)]; rfl
  · cases r' with
    | error k => cases e
    | ok okk =>
      obtain ⟨a, q⟩ := okk
      obtain ⟨h1, h2⟩ := h.back hp a q rfl
      rw [h1]
      exact (hf a q).back h2 b q2 e
theorem PreAt.leaf {α : Type} (L p : Nat) (a : α) : PreAt L p (.ok (a, p)) (.ok (a, p)) :=
  ⟨fun _ _ e => by cases e; exact Nat.le_refl _, fun _ _ _ e _ => e, fun h _ _ e h2 => by cases e; omega, fun h _ _ e => by cases e; exact ⟨rfl, h⟩⟩
theorem PreAt.error {α : Type} (L p k : Nat) : PreAt (α := α) L p (.error k) (.error k) :=
  ⟨fun _ _ e => (by cases e), fun _ _ _ e => (by cases e), fun _ _ _ e => (by cases e), fun _ _ _ e => (by cases e)⟩
theorem PreAt.up {α : Type} {L p p' : Nat} {r r' : Out α} (h : PreAt L p' r r') (hp : p ≤ p') (hL : p ≤ L → p' ≤ L) : PreAt L p r r' :=
  ⟨fun a q e => Nat.le_trans hp (h.mono a q e), fun h1 => h.same (hL h1), fun h1 => h.short (hL h1), fun h1 => h.back (hL h1)⟩

theorem iter_pre {σ ρ : Type} {L N : Nat} {step step' : σ → Nat → Out (σ ⊕ ρ)} (hLN : L ≤ N) (h : ∀ s p, PreAt L p (step s p) (step' s p)) : ∀ n s p, N - p ≤ n → PreAt L p (iter N step s p) (iter L step' s p) := by
  have key : ∀ s p, (∀ s' q, p < q → q ≤ N → PreAt L q (iter N step s' q) (iter L step' s' q)) → PreAt L p (iter N step s p) (iter L step' s p) := by
    intro s p ih
    have hs := h s p
    refine ⟨fun b q2 e => ?_, fun hp b q2 e hq => ?_, fun hp b q2 e hq => ?_, fun hp b q2 e => ?_⟩
    · rw [iter_eq] at e
      cases hst : step s p with
      | error k => rw [hst] at e; cases e
      | ok okk =>
        obtain ⟨x, q⟩ := okk
        have hm := hs.mono x q hst
        rw [hst] at e
        cases x with
        | inr r => cases e; exact hm
        | inl s' =>
          simp only at e
          split at e
          · rename_i hc; have := (ih s' q hc.1 hc.2).mono b q2 e; omega
          · cases e
    · rw [iter_eq] at e ⊢
      cases hst : step s p with
      | error k => rw [hst] at e; cases e
      | ok okk =>
        obtain ⟨x, q⟩ := okk
        rw [hst] at e
        cases x with
        | inr r =>
          cases e
          rw [hs.same hp _ _ hst hq]
        | inl s' =>
          simp only at e
          split at e
          · rename_i hc
            have h2 := (ih s' q hc.1 hc.2).mono b q2 e
            rw [hs.same hp _ _ hst (by omega)]
            simp only
            rw [if_pos ⟨hc.1, by omega⟩]
            exact (ih s' q hc.1 hc.2).same (by omega) b q2 e hq
          · cases e
    · rw [iter_eq] at e ⊢
      cases hst : step s p with
      | error k => rw [hst] at e; cases e
      | ok okk =>
        obtain ⟨x, q⟩ := okk
        rw [hst] at e
        cases x with
        | inr r =>
          cases e
          rw [hs.short hp _ _ hst hq]
        | inl s' =>
          simp only at e
          split at e
          · rename_i hc
            by_cases hqL : q ≤ L
            · rw [hs.same hp _ _ hst hqL]
              simp only
              rw [if_pos ⟨hc.1, hqL⟩]
              exact (ih s' q hc.1 hc.2).short hqL b q2 e hq
            · rw [hs.short hp _ _ hst (by omega)]
          · cases e
    · rw [iter_eq] at e ⊢
      cases hst : step' s p with
      | error k => rw [hst] at e; cases e
      | ok okk =>
        obtain ⟨x, q⟩ := okk
        rw [hst] at e
        obtain ⟨h1, h2⟩ := hs.back hp _ _ hst
        rw [h1]
        cases x with
        | inr r => cases e; exact ⟨rfl, h2⟩
        | inl s' =>
          simp only at e ⊢
          split at e
          · rename_i hc
            rw [if_pos ⟨hc.1, by omega⟩]
            exact (ih s' q hc.1 (by omega)).back h2 b q2 e
          · cases e
  intro n
  induction n with
  | zero => intro s p hn; exact key s p (fun s' q h1 h2 => by omega)
  | succ n ih => intro s p hn; exact key s p (fun s' q h1 h2 => ih s' q (by omega))

theorem val_pre {d d' : List UInt8} (hb : ∀ k, k < 8 * d'.length → bitv d' k = bitv d k) (p : Nat) : ∀ n, p + n ≤ 8 * d'.length → val d' p n = val d p n
  | 0, _ => rfl
  | n + 1, h => by rw [val, val, val_pre hb p n (by omega), hb (p + n) (by omega)]
theorem num_pre {d d' : List UInt8} (hl : d'.length ≤ d.length) (hb : ∀ k, k < 8 * d'.length → bitv d' k = bitv d k) (n p : Nat) : PreAt (8 * d'.length) p (num d n p) (num d' n p) := by
  have hv := val_pre hb p n
  unfold num
  refine ⟨fun b q e => ?_, fun hp b q e hq => ?_, fun hp b q e hq => ?_, fun hp b q e => ?_⟩
  · split at e
    · cases e; omega
    · cases e
  · split at e
    · cases e; rw [if_pos hq, hv hq]
    · cases e
  · split at e
    · cases e; rw [if_neg (by omega)]
    · cases e
  · split at e
    · rename_i h; cases e; rw [if_pos (by omega), hv h]; exact ⟨rfl, h⟩
    · cases e
theorem symGo_pre {d d' : List UInt8} (hl : d'.length ≤ d.length) (hb : ∀ k, k < 8 * d'.length → bitv d' k = bitv d k) (c : Code) : ∀ m n taken first shorter p, PreAt (8 * d'.length) p (symGo d c m n taken first shorter p) (symGo d' c m n taken first shorter p)
  | 0, _, _, _, _, p => PreAt.error _ _ _
  | m + 1, n, taken, first, shorter, p => by
    have ih := symGo_pre hl hb c m (n + 1) (2 * taken + bitv d p) (2 * first + c.count.getD n 0) (shorter + c.count.getD n 0) (p + 1)
    by_cases hp : p < 8 * d'.length
    · rw [symGo, symGo, if_pos hp, if_pos (by omega), hb p hp]
      split
      · exact (PreAt.leaf _ _ _).up (by omega) (by omega)
      · exact ih.up (by omega) (by omega)
    · rw [symGo, symGo, if_neg hp]
      refine ⟨fun b q e => ?_, fun hp b q e hq => ?_, fun hp b q e hq => rfl, fun hp b q e => by cases e⟩
      · split at e
        · split at e
          · cases e; omega
          · have := ih.mono b q e; omega
        · cases e
      · exfalso
        split at e
        · split at e
          · cases e; omega
          · have := ih.mono b q e; omega
        · cases e
theorem sym_pre {d d' : List UInt8} (hl : d'.length ≤ d.length) (hb : ∀ k, k < 8 * d'.length → bitv d' k = bitv d k) (c : Code) (p : Nat) : PreAt (8 * d'.length) p (sym d c p) (sym d' c p) := symGo_pre hl hb c _ _ _ _ _ p
theorem dist_pre {d d' : List UInt8} (hl : d'.length ≤ d.length) (hb : ∀ k, k < 8 * d'.length → bitv d' k = bitv d k) (c : Code) (p : Nat) : PreAt (8 * d'.length) p (dist d c p) (dist d' c p) := by
  refine (sym_pre hl hb c p).bind (fun s q => ?_)
  split
  · exact PreAt.error _ _ _
  · exact (num_pre hl hb _ q).bind (fun v q2 => PreAt.leaf _ _ _)
theorem rep_pre {d d' : List UInt8} (hl : d'.length ≤ d.length) (hb : ∀ k, k < 8 * d'.length → bitv d' k = bitv d k) (t : Table) (lim s : Nat) (out : List UInt8) (p : Nat) : PreAt (8 * d'.length) p (rep d t lim s out p) (rep d' t lim s out p) := by
  refine (num_pre hl hb _ p).bind (fun v q => (dist_pre hl hb _ q).bind (fun far q2 => ?_))
  split
  · exact PreAt.error _ _ _
  · split
    · exact PreAt.error _ _ _
    · exact PreAt.leaf _ _ _
theorem obey_pre {d d' : List UInt8} (hl : d'.length ≤ d.length) (hb : ∀ k, k < 8 * d'.length → bitv d' k = bitv d k) (t : Table) (lim s : Nat) (out : List UInt8) (p : Nat) : PreAt (8 * d'.length) p (obey d t lim s out p) (obey d' t lim s out p) := by
  unfold obey
  split
  · split
    · exact PreAt.error _ _ _
    · exact PreAt.leaf _ _ _
  · split
    · exact PreAt.leaf _ _ _
    · split
      · exact (rep_pre hl hb t lim s out p).bind (fun o q => PreAt.leaf _ _ _)
      · exact PreAt.error _ _ _
theorem syms_pre {d d' : List UInt8} (hl : d'.length ≤ d.length) (hb : ∀ k, k < 8 * d'.length → bitv d' k = bitv d k) (t : Table) (lim : Nat) (out : List UInt8) (p : Nat) : PreAt (8 * d'.length) p (syms d t lim out p) (syms d' t lim out p) :=
  iter_pre (by omega) (fun s p => (sym_pre hl hb t.syms p).bind (fun x q => (obey_pre hl hb t lim x s q).bind (fun o q2 => PreAt.leaf _ _ _))) _ out p (Nat.le_refl _)
theorem bytes_pre {d d' : List UInt8} (hl : d'.length ≤ d.length) (hb : ∀ k, k < 8 * d'.length → bitv d' k = bitv d k) (lim : Nat) : ∀ n out p, PreAt (8 * d'.length) p (bytes d lim n out p) (bytes d' lim n out p)
  | 0, out, p => PreAt.leaf _ _ _
  | n + 1, out, p => by
    rw [bytes, bytes]
    refine (num_pre hl hb 8 p).bind (fun v q => ?_)
    split
    · exact PreAt.error _ _ _
    · exact bytes_pre hl hb lim n _ q
theorem stored_pre {d d' : List UInt8} (hl : d'.length ≤ d.length) (hb : ∀ k, k < 8 * d'.length → bitv d' k = bitv d k) (lim : Nat) (out : List UInt8) (p : Nat) : PreAt (8 * d'.length) p (stored d lim out p) (stored d' lim out p) := by
  refine PreAt.up (p' := 8 * ((p + 7) / 8)) ?_ (by omega) (by omega)
  refine (num_pre hl hb 16 _).bind (fun n q => (num_pre hl hb 16 q).bind (fun m q2 => ?_))
  split
  · exact PreAt.error _ _ _
  · exact bytes_pre hl hb lim n out q2
theorem tellGo_pre {d d' : List UInt8} (hl : d'.length ≤ d.length) (hb : ∀ k, k < 8 * d'.length → bitv d' k = bitv d k) : ∀ n i l p, PreAt (8 * d'.length) p (tellGo d n i l p) (tellGo d' n i l p)
  | 0, _, l, p => PreAt.leaf _ _ _
  | n + 1, i, l, p => by
    rw [tellGo, tellGo]
    exact (num_pre hl hb 3 p).bind (fun v q => tellGo_pre hl hb n (i + 1) _ q)
theorem telling_pre {d d' : List UInt8} (hl : d'.length ≤ d.length) (hb : ∀ k, k < 8 * d'.length → bitv d' k = bitv d k) (n p : Nat) : PreAt (8 * d'.length) p (telling d n p) (telling d' n p) := by
  refine (tellGo_pre hl hb n 0 _ p).bind (fun l q => ?_)
  split
  · exact PreAt.leaf _ _ _
  · exact PreAt.error _ _ _
theorem run_pre {d d' : List UInt8} (hl : d'.length ≤ d.length) (hb : ∀ k, k < 8 * d'.length → bitv d' k = bitv d k) (s p : Nat) : PreAt (8 * d'.length) p (run d s p) (run d' s p) := by
  unfold run
  split
  · exact (num_pre hl hb _ p).bind (fun v q => PreAt.leaf _ _ _)
  split
  · exact (num_pre hl hb _ p).bind (fun v q => PreAt.leaf _ _ _)
  split
  · exact (num_pre hl hb _ p).bind (fun v q => PreAt.leaf _ _ _)
  · exact PreAt.leaf _ _ _
theorem told_pre {d d' : List UInt8} (hl : d'.length ≤ d.length) (hb : ∀ k, k < 8 * d'.length → bitv d' k = bitv d k) (c : Code) (count p : Nat) : PreAt (8 * d'.length) p (told d c count p) (told d' c count p) := by
  refine iter_pre (by omega) (fun s p => ?_) _ [] p (Nat.le_refl _)
  unfold toldStep
  split
  · refine (sym_pre hl hb c p).bind (fun x q => (run_pre hl hb x q).bind (fun lt q2 => ?_))
    split
    · exact PreAt.error _ _ _
    split
    · exact PreAt.error _ _ _
    · exact PreAt.leaf _ _ _
  · exact PreAt.leaf _ _ _
theorem codes_pre {d d' : List UInt8} (hl : d'.length ≤ d.length) (hb : ∀ k, k < 8 * d'.length → bitv d' k = bitv d k) (p : Nat) : PreAt (8 * d'.length) p (codes d p) (codes d' p) := by
  refine (num_pre hl hb 5 p).bind (fun a q => (num_pre hl hb 5 q).bind (fun b q2 => (num_pre hl hb 4 q2).bind (fun c q3 => ?_)))
  split
  · exact PreAt.error _ _ _
  · refine (telling_pre hl hb _ q3).bind (fun tc q4 => (told_pre hl hb tc _ q4).bind (fun l q5 => ?_))
    simp only
    split
    · exact PreAt.leaf _ _ _
    · exact PreAt.error _ _ _
theorem goOn_pre {d d' : List UInt8} (hl : d'.length ≤ d.length) (hb : ∀ k, k < 8 * d'.length → bitv d' k = bitv d k) (lim : Nat) (s : St) (p : Nat) : PreAt (8 * d'.length) p (goOn d lim s p) (goOn d' lim s p) := by
  unfold goOn
  split
  · refine (num_pre hl hb 1 p).bind (fun a q => (num_pre hl hb 2 q).bind (fun k q2 => ?_))
    split
    · exact PreAt.leaf _ _ _
    split
    · exact PreAt.leaf _ _ _
    split
    · exact PreAt.leaf _ _ _
    · exact PreAt.error _ _ _
  · exact (stored_pre hl hb lim s.out p).bind (fun o q => PreAt.leaf _ _ _)
  · exact (codes_pre hl hb p).bind (fun t q => (syms_pre hl hb t lim s.out q).bind (fun o q2 => PreAt.leaf _ _ _))
  · exact (syms_pre hl hb _ lim s.out p).bind (fun o q => PreAt.leaf _ _ _)
  · exact PreAt.leaf _ _ _
theorem read_pre {d d' : List UInt8} (hl : d'.length ≤ d.length) (hb : ∀ k, k < 8 * d'.length → bitv d' k = bitv d k) (lim : Nat) : PreAt (8 * d'.length) 0 (read d lim) (read d' lim) :=
  iter_pre (by omega) (fun s p => goOn_pre hl hb lim s p) _ _ 0 (Nat.le_refl _)

theorem bit_app (d e : List UInt8) (k : Nat) (h : k < 8 * d.length) : bitv d k = bitv (d ++ e) k := by
  unfold bitv
  have : (d ++ e).getD (k / 8) 0 = d.getD (k / 8) 0 := by
    simp [List.getD, List.getElem?_append_left (show k / 8 < d.length by omega)]
  rw [this]
theorem bit_take (d : List UInt8) (m : Nat) (k : Nat) (h : k < 8 * (d.take m).length) : bitv (d.take m) k = bitv d k := by
  have := bit_app (d.take m) (d.drop m) k h
  rwa [List.take_append_drop] at this

/-- What stands behind plays no part. -/
theorem read_more (d e : List UInt8) (lim : Nat) {o : List UInt8} {q : Nat} (h : read d lim = .ok (o, q)) : read (d ++ e) lim = .ok (o, q) :=
  ((read_pre (d := d ++ e) (d' := d) (by simp) (fun k hk => bit_app d e k hk) lim).back (Nat.zero_le _) o q h).1
/-- Cut before the end: the bits do not suffice. -/
theorem read_cut (d : List UInt8) (m lim : Nat) {o : List UInt8} {q : Nat} (h : read d lim = .ok (o, q)) (hm : 8 * m < q) : read (d.take m) lim = .error 2 :=
  (read_pre (d := d) (d' := d.take m) (by simp; omega) (fun k hk => bit_take d m k hk) lim).short (Nat.zero_le _) o q h (by simp; omega)
theorem read_end (d : List UInt8) (lim : Nat) {o : List UInt8} {q : Nat} (h : read d lim = .ok (o, q)) : q ≤ 8 * d.length :=
  ((read_pre (d := d) (d' := d) (Nat.le_refl _) (fun _ _ => rfl) lim).back (Nat.zero_le _) o q h).2
theorem read_nil (lim : Nat) : read [] lim = .error 2 := by
  unfold read
  rw [iter_eq]
  rfl
theorem read_pos (d : List UInt8) (lim : Nat) {o : List UInt8} {q : Nat} (h : read d lim = .ok (o, q)) : 0 < q := by
  rcases Nat.eq_zero_or_pos q with h0 | h0
  · subst h0
    exfalso
    have hp := read_pre (d := d) (d' := []) (by simp) (fun k hk => by simp at hk) lim
    have := hp.same (Nat.zero_le _) o 0 h (Nat.zero_le _)
    rw [read_nil] at this
    cases this
  · exact h0

/-! Room for more. -/

/-- r: what is come to under the limit lo; r': under a limit that is no lower; b: how much was put out before. -/
structure LimAt {α : Type} (lo b : Nat) (m : α → Nat) (r r' : Out α) : Prop where
  same : r ≠ .error 8 → r' = r
  more : r = .error 8 → ∀ a q, r' = .ok (a, q) → lo < m a
  grow : ∀ a q, r' = .ok (a, q) → b ≤ m a

theorem LimAt.pre {α β : Type} {lo b : Nat} {m : β → Nat} (r : Out α) {f f' : α → Nat → Out β} (h : ∀ a q, LimAt lo b m (f a q) (f' a q)) : LimAt lo b m (r.bind f) (r.bind f') := by
  cases r with
  | error k => exact ⟨fun _ => rfl, fun _ _ _ e => (by cases e), fun _ _ e => (by cases e)⟩
  | ok okk => obtain ⟨a, q⟩ := okk; exact h a q
theorem LimAt.post {α β : Type} {lo b : Nat} {m1 : α → Nat} {m : β → Nat} {r r' : Out α} (h : LimAt lo b m1 r r') (f : α → Nat → β) (hf : ∀ a q, m (f a q) = m1 a) : LimAt lo b m (r.bind fun a q => .ok ((f a q), q)) (r'.bind fun a q => .ok ((f a q), q)) := by
  refine ⟨fun hne => ?_, fun e a q e' => ?_, fun a q e' => ?_⟩
  · have : r ≠ .error 8 := fun e => hne (by rw [e]; rfl)
    rw [h.same this]
  · cases r with
    | ok okk => obtain ⟨a, q⟩ := okk; cases e
    | error k =>
      cases e
      cases r' with
      | error k => cases e'
      | ok okk => obtain ⟨x, q⟩ := okk; cases e'; rw [hf]; exact h.more rfl x _ rfl
  · cases r' with
    | error k => cases e'
    | ok okk => obtain ⟨x, q⟩ := okk; cases e'; rw [hf]; exact h.grow x _ rfl
theorem LimAt.leaf {α : Type} {lo b : Nat} {m : α → Nat} (a : α) (p : Nat) (h : b ≤ m a) : LimAt lo b m (.ok (a, p)) (.ok (a, p)) :=
  ⟨fun _ => rfl, fun e => (by cases e), fun _ _ e => (by cases e; exact h)⟩
theorem LimAt.error {α : Type} {lo b : Nat} {m : α → Nat} (k : Nat) : LimAt (α := α) lo b m (.error k) (.error k) :=
  ⟨fun _ => rfl, fun _ _ _ e => (by cases e), fun _ _ e => (by cases e)⟩

theorem iter_lim {σ ρ : Type} {N lo : Nat} {step step' : σ → Nat → Out (σ ⊕ ρ)} {ms : σ → Nat} {mr : ρ → Nat} (h : ∀ s p, LimAt lo (ms s) (Sum.elim ms mr) (step s p) (step' s p)) : ∀ n s p, N - p ≤ n → LimAt lo (ms s) mr (iter N step s p) (iter N step' s p) := by
  have key : ∀ s p, (∀ s' q, p < q → q ≤ N → LimAt lo (ms s') mr (iter N step s' q) (iter N step' s' q)) → LimAt lo (ms s) mr (iter N step s p) (iter N step' s p) := by
    intro s p ih
    have hs := h s p
    have hgrow : ∀ a q, iter N step' s p = .ok (a, q) → ms s ≤ mr a := by
      intro a q e
      rw [iter_eq] at e
      cases hst : step' s p with
      | error k => rw [hst] at e; cases e
      | ok okk =>
        obtain ⟨x, q1⟩ := okk
        have hg := hs.grow x q1 hst
        rw [hst] at e
        cases x with
        | inr r => cases e; exact hg
        | inl s' =>
          simp only at e
          split at e
          · rename_i hc; exact Nat.le_trans hg ((ih s' q1 hc.1 hc.2).grow a q e)
          · cases e
    have hcase : (step s p = .error 8) ∨ step' s p = step s p := by
      by_cases he : step s p = .error 8
      · exact .inl he
      · exact .inr (hs.same he)
    rcases hcase with he | he
    · have hi : iter N step s p = .error 8 := by rw [iter_eq, he]
      refine ⟨fun hne => absurd hi hne, fun _ a q e => ?_, hgrow⟩
      rw [iter_eq] at e
      cases hst : step' s p with
      | error k => rw [hst] at e; cases e
      | ok okk =>
        obtain ⟨x, q1⟩ := okk
        have hm := hs.more he x q1 hst
        rw [hst] at e
        cases x with
        | inr r => cases e; exact hm
        | inl s' =>
          simp only at e
          split at e
          · rename_i hc; exact Nat.lt_of_lt_of_le hm ((ih s' q1 hc.1 hc.2).grow a q e)
          · cases e
    · refine ⟨fun hne => ?_, fun e8 a q e => ?_, hgrow⟩
      · rw [iter_eq] at hne ⊢
        rw [iter_eq N step s p] 
        rw [he]
        cases hst : step s p with
        | error k => rfl
        | ok okk =>
          obtain ⟨x, q1⟩ := okk
          cases x with
          | inr r => rfl
          | inl s' =>
            rw [hst] at hne
            simp only at hne ⊢
            split
            · rename_i hc
              rw [if_pos hc] at hne
              exact (ih s' q1 hc.1 hc.2).same hne
            · rfl
      · rw [iter_eq] at e8 e
        rw [he] at e
        cases hst : step s p with
        | error k => rw [hst] at e; cases e
        | ok okk =>
          obtain ⟨x, q1⟩ := okk
          rw [hst] at e e8
          cases x with
          | inr r => cases e8
          | inl s' =>
            simp only at e e8
            split at e
            · rename_i hc
              rw [if_pos hc] at e8
              exact (ih s' q1 hc.1 hc.2).more e8 a q e
            · cases e
  intro n
  induction n with
  | zero => intro s p hn; exact key s p (fun s' q h1 h2 => by omega)
  | succ n ih => intro s p hn; exact key s p (fun s' q h1 h2 => ih s' q (by omega))

theorem copy_grow (lim far : Nat) : ∀ n out o, copyGo lim far n out = some o → out.length ≤ o.length
  | 0, out, o, h => by cases h; exact Nat.le_refl _
  | n + 1, out, o, h => by
    rw [copyGo] at h
    split at h
    · cases h
    · have := copy_grow lim far n _ o h
      simp at this; omega
theorem copy_lim (lo hi far : Nat) (hlh : lo ≤ hi) : ∀ n out, (∀ o, copyGo lo far n out = some o → copyGo hi far n out = some o) ∧ (copyGo lo far n out = none → ∀ o, copyGo hi far n out = some o → lo < o.length)
  | 0, out => ⟨fun _ h => h, fun h => by cases h⟩
  | n + 1, out => by
    have ih := copy_lim lo hi far hlh n (out ++ [out.getD (out.length - far) 0])
    rw [copyGo, copyGo]
    by_cases h : lo ≤ out.length
    · rw [if_pos h]
      refine ⟨fun o e => (by cases e), fun _ o e => ?_⟩
      split at e
      · cases e
      · have := copy_grow hi far n _ o e
        simp at this; omega
    · rw [if_neg h, if_neg (by omega)]
      exact ih
theorem rep_lim (d : List UInt8) (t : Table) (lo hi s : Nat) (hlh : lo ≤ hi) (out : List UInt8) (p : Nat) : LimAt lo out.length List.length (rep d t lo s out p) (rep d t hi s out p) := by
  refine LimAt.pre _ (fun v p1 => LimAt.pre _ (fun far p2 => ?_))
  split
  · exact LimAt.error _
  · have h := copy_lim lo hi far hlh (lenFrom.getD (s - 257) 0 + v) out
    cases h1 : copyGo lo far (lenFrom.getD (s - 257) 0 + v) out with
    | some o => rw [h.1 o h1]; exact LimAt.leaf _ _ (copy_grow lo far _ _ o h1)
    | none =>
      refine ⟨fun hne => absurd rfl hne, fun _ a q e => ?_, fun a q e => ?_⟩
      · cases h2 : copyGo hi far (lenFrom.getD (s - 257) 0 + v) out with
        | none => rw [h2] at e; cases e
        | some o => rw [h2] at e; cases e; exact h.2 h1 _ h2
      · cases h2 : copyGo hi far (lenFrom.getD (s - 257) 0 + v) out with
        | none => rw [h2] at e; cases e
        | some o => rw [h2] at e; cases e; exact copy_grow hi far _ _ _ h2
theorem obey_lim (d : List UInt8) (t : Table) (lo hi s : Nat) (hlh : lo ≤ hi) (out : List UInt8) (p : Nat) : LimAt lo out.length (fun o => o.1.length) (obey d t lo s out p) (obey d t hi s out p) := by
  unfold obey
  split
  · by_cases h : lo ≤ out.length
    · rw [if_pos h]
      refine ⟨fun hne => absurd rfl hne, fun _ a q e => ?_, fun a q e => ?_⟩
      · split at e
        · cases e
        · cases e; simp; omega
      · split at e
        · cases e
        · cases e; simp
    · rw [if_neg h, if_neg (by omega)]
      exact LimAt.leaf _ _ (by simp)
  split
  · exact LimAt.leaf _ _ (Nat.le_refl _)
  split
  · exact (rep_lim d t lo hi s hlh out p).post (fun o _ => (o, false)) (fun _ _ => rfl)
  · exact LimAt.error _
theorem syms_lim (d : List UInt8) (t : Table) (lo hi : Nat) (hlh : lo ≤ hi) (out : List UInt8) (p : Nat) : LimAt lo out.length List.length (syms d t lo out p) (syms d t hi out p) := by
  refine iter_lim (ms := List.length) (fun s p => ?_) _ out p (Nat.le_refl _)
  refine LimAt.pre _ (fun x q => (obey_lim d t lo hi x hlh s q).post (fun o _ => if o.2 then Sum.inr o.1 else Sum.inl o.1) (fun o _ => ?_))
  cases o.2 <;> rfl
theorem bytes_lim (d : List UInt8) (lo hi : Nat) (hlh : lo ≤ hi) : ∀ n out p, LimAt lo out.length List.length (bytes d lo n out p) (bytes d hi n out p)
  | 0, out, p => LimAt.leaf _ _ (Nat.le_refl _)
  | n + 1, out, p => by
    rw [bytes, bytes]
    refine LimAt.pre _ (fun v q => ?_)
    have ih := bytes_lim d lo hi hlh n (out ++ [UInt8.ofNat v]) q
    by_cases h : lo ≤ out.length
    · rw [if_pos h]
      refine ⟨fun hne => absurd rfl hne, fun _ a q e => ?_, fun a q e => ?_⟩
      · split at e
        · cases e
        · have := ih.grow a q e; simp at this; omega
      · split at e
        · cases e
        · have := ih.grow a q e; simp at this; omega
    · rw [if_neg h, if_neg (by omega)]
      exact ⟨ih.same, ih.more, fun a q e => by have := ih.grow a q e; simp at this; omega⟩
theorem goOn_lim (d : List UInt8) (lo hi : Nat) (hlh : lo ≤ hi) (s : St) (p : Nat) : LimAt lo s.out.length (Sum.elim (fun s => s.out.length) List.length) (goOn d lo s p) (goOn d hi s p) := by
  unfold goOn
  split
  · refine LimAt.pre _ (fun a q => LimAt.pre _ (fun k q2 => ?_))
    split
    · exact LimAt.leaf _ _ (Nat.le_refl _)
    split
    · exact LimAt.leaf _ _ (Nat.le_refl _)
    split
    · exact LimAt.leaf _ _ (Nat.le_refl _)
    · exact LimAt.error _
  · refine LimAt.post (m1 := List.length) (LimAt.pre _ (fun n q => LimAt.pre _ (fun m q2 => ?_))) (m := Sum.elim (fun s : St => s.out.length) List.length) (fun o _ => Sum.inl { s with place := ended s.last, out := o }) (fun _ _ => rfl)
    split
    · exact LimAt.error _
    · exact bytes_lim d lo hi hlh n s.out q2
  · exact LimAt.pre _ (fun t q => (syms_lim d t lo hi hlh s.out q).post (m := Sum.elim (fun s : St => s.out.length) List.length) (fun o _ => Sum.inl { s with place := ended s.last, out := o }) (fun _ _ => rfl))
  · exact (syms_lim d _ lo hi hlh s.out p).post (m := Sum.elim (fun s : St => s.out.length) List.length) (fun o _ => Sum.inl { s with place := ended s.last, out := o }) (fun _ _ => rfl)
  · exact LimAt.leaf _ _ (Nat.le_refl _)
theorem read_lim (d : List UInt8) (lo hi : Nat) (hlh : lo ≤ hi) : LimAt lo 0 List.length (read d lo) (read d hi) :=
  iter_lim (ms := fun s => s.out.length) (fun s p => goOn_lim d lo hi hlh s p) _ { place := .inl (false, false), last := false, out := [] } 0 (Nat.le_refl _)

/-! One input. -/
theorem al1 : goOn [75, 4, 0] 1 { place := .inl (false, false), last := false, out := [] } 0 = .ok ((.inl { place := .inr fixed, last := true, out := [] }), 3) := by kernel_rfl
theorem al2 : symsStep [75, 4, 0] fixed 1 [] 3 = .ok ((.inl [97]), 11) := by kernel_rfl
theorem al3 : symsStep [75, 4, 0] fixed 1 [97] 11 = .ok ((.inr [97]), 18) := by kernel_rfl
theorem al4 : syms [75, 4, 0] fixed 1 [] 3 = .ok ([97], 18) := by
  unfold syms
  rw [iter_eq, al2]
  simp only
  rw [if_pos (by decide), iter_eq, al3]
theorem alive_read : read [75, 4, 0] 1 = .ok ([97], 18) := by
  unfold read
  rw [iter_eq, al1]
  simp only
  rw [if_pos (by decide), iter_eq]
  have h : goOn [75, 4, 0] 1 { place := .inr fixed, last := true, out := [] } 3 = .ok ((.inl { place := .inl (true, true), last := true, out := [97] }), 18) := by
    unfold goOn; simp only; rw [al4]; rfl
  rw [h]
  simp only
  rw [if_pos (by decide), iter_eq]
  rfl
theorem alive_inflate : inflate [75, 4, 0] 1 = ([97], 3, 0) := by
  unfold inflate
  rw [if_neg (by decide), if_neg (by decide)]
  have e : (1 : Int).toNat = 1 := rfl
  rw [e, alive_read]
end Gz
end Go.Proofs.YtjjjlilflbddoaaDoor
