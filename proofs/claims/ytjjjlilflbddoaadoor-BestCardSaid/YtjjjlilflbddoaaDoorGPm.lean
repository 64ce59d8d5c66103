
/-
  Bundles, merged and taken two by two: package-merge, as mathematics. Nothing of the dump is imported.
-/
namespace Go.Proofs.YtjjjlilflbddoaaDoor
namespace Pm

/-- A bundle: how often it counts, and its symbols. -/
abbrev Bd : Type := Nat × List Nat
def le {α : Type} (a b : Nat × α) : Bool := decide (a.1 ≤ b.1)
def Sd {α : Type} (l : List (Nat × α)) : Prop := l.Pairwise (fun a b => a.1 ≤ b.1)
def mrg {α : Type} (s p : List (Nat × α)) : List (Nat × α) := s.merge p le
def wt {α : Type} (l : List (Nat × α)) : Nat := (l.map Prod.fst).sum
def pairs : List Bd → List Bd
  | a :: b :: l => (a.1 + b.1, a.2 ++ b.2) :: pairs l
  | _ => []
/-- The rows: none, then each round the singles with the pairs of the last row. -/
def rows (s : List Bd) : Nat → List Bd
  | 0 => []
  | k + 1 => mrg s (pairs (rows s k))
def syms (l : List Bd) : List Nat := l.flatMap Prod.snd

theorem mrg_nil {α : Type} (s : List (Nat × α)) : mrg s [] = s := by simp [mrg]
theorem nil_mrg {α : Type} (s : List (Nat × α)) : mrg [] s = s := by simp [mrg]
theorem mrg_le {α : Type} {a b : Nat × α} {s p : List (Nat × α)} (h : a.1 ≤ b.1) : mrg (a :: s) (b :: p) = a :: mrg s (b :: p) := by
  unfold mrg; rw [List.cons_merge_cons, if_pos (by simpa [le] using h)]
theorem mrg_gt {α : Type} {a b : Nat × α} {s p : List (Nat × α)} (h : b.1 < a.1) : mrg (a :: s) (b :: p) = b :: mrg (a :: s) p := by
  unfold mrg; rw [List.cons_merge_cons, if_neg (by simp [le]; omega)]
theorem mrg_perm {α : Type} (s p : List (Nat × α)) : (mrg s p).Perm (s ++ p) := List.merge_perm_append _
theorem mrg_len {α : Type} (s p : List (Nat × α)) : (mrg s p).length = s.length + p.length := List.length_merge _ _ _
theorem sd_mrg {α : Type} {s p : List (Nat × α)} (hs : Sd s) (hp : Sd p) : Sd (mrg s p) := by
  have h := List.pairwise_merge (le := @le α) (fun a b c h1 h2 => by simp only [le, decide_eq_true_eq] at *; omega) (fun a b => by simp only [le, Bool.or_eq_true, decide_eq_true_eq]; omega) s p
    (hs.imp (fun h => by simpa [le] using h)) (hp.imp (fun h => by simpa [le] using h))
  exact h.imp (fun h => by simpa [le] using h)
theorem mem_mrg {α : Type} {s p : List (Nat × α)} {x : Nat × α} : x ∈ mrg s p ↔ x ∈ s ∨ x ∈ p := List.mem_merge
theorem wt_cons {α : Type} (a : Nat × α) (l : List (Nat × α)) : wt (a :: l) = a.1 + wt l := by simp [wt]
theorem wt_app {α : Type} (a b : List (Nat × α)) : wt (a ++ b) = wt a + wt b := by simp [wt]
theorem wt_perm {α : Type} {a b : List (Nat × α)} (h : a.Perm b) : wt a = wt b := (h.map _).sum_nat

theorem pairs_len : ∀ l : List Bd, (pairs l).length = l.length / 2
  | [] => rfl
  | [_] => by simp [pairs]
  | a :: b :: l => by
    rw [pairs, List.length_cons, pairs_len l, List.length_cons, List.length_cons]
    omega
theorem pairs_wt : ∀ (l : List Bd) (q : Nat), q ≤ l.length / 2 → wt ((pairs l).take q) = wt (l.take (2 * q))
  | _, 0, _ => rfl
  | [], q + 1, h => by simp at h
  | [_], q + 1, h => by simp at h
  | a :: b :: l, q + 1, h => by
    rw [List.length_cons, List.length_cons] at h
    rw [pairs, List.take_succ_cons, wt_cons, pairs_wt l q (by omega), show 2 * (q + 1) = 2 * q + 1 + 1 by omega, List.take_succ_cons, List.take_succ_cons, wt_cons, wt_cons]
    show a.1 + b.1 + _ = _
    omega
theorem pairs_syms : ∀ (l : List Bd) (q : Nat), q ≤ l.length / 2 → syms ((pairs l).take q) = syms (l.take (2 * q))
  | _, 0, _ => rfl
  | [], q + 1, h => by simp at h
  | [_], q + 1, h => by simp at h
  | a :: b :: l, q + 1, h => by
    rw [List.length_cons, List.length_cons] at h
    have ih := pairs_syms l q (by omega)
    unfold syms at ih ⊢
    rw [pairs, List.take_succ_cons, List.flatMap_cons, ih, show 2 * (q + 1) = 2 * q + 1 + 1 by omega, List.take_succ_cons, List.take_succ_cons, List.flatMap_cons, List.flatMap_cons, List.append_assoc]
theorem pairs_mem : ∀ (l : List Bd) (x : Bd), x ∈ pairs l → ∃ a b, a ∈ l ∧ b ∈ l ∧ x = (a.1 + b.1, a.2 ++ b.2)
  | [], x, h => by simp [pairs] at h
  | [_], x, h => by simp [pairs] at h
  | a :: b :: l, x, h => by
    rw [pairs, List.mem_cons] at h
    rcases h with h | h
    · exact ⟨a, b, by simp, by simp, h⟩
    · obtain ⟨c, d, hc, hd, e⟩ := pairs_mem l x h
      exact ⟨c, d, by simp [hc], by simp [hd], e⟩
theorem sd_pairs : ∀ {l : List Bd}, Sd l → Sd (pairs l)
  | [], _ => List.Pairwise.nil
  | [_], _ => List.Pairwise.nil
  | a :: b :: l, h => by
    unfold Sd at h
    rw [List.pairwise_cons, List.pairwise_cons] at h
    obtain ⟨h1, h2, h3⟩ := h
    rw [pairs]
    refine List.Pairwise.cons (fun x hx => ?_) (sd_pairs (l := l) h3)
    obtain ⟨c, d, hc, hd, rfl⟩ := pairs_mem l x hx
    have := h1 c (by simp [hc])
    have := h2 d hd
    show a.1 + b.1 ≤ c.1 + d.1
    omega
theorem sd_rows {s : List Bd} (hs : Sd s) : ∀ k, Sd (rows s k)
  | 0 => List.Pairwise.nil
  | k + 1 => sd_mrg hs (sd_pairs (sd_rows hs k))
theorem rows_len (s : List Bd) (k : Nat) : (rows s (k + 1)).length = s.length + (rows s k).length / 2 := by rw [rows, mrg_len, pairs_len]
theorem rows_one (s : List Bd) : rows s 1 = s := by
  have : rows s 1 = mrg s [] := rfl
  rw [this, mrg_nil]
/-- There are items enough in the last row. -/
theorem rows_long (s : List Bd) : ∀ k n, s.length ≤ n * 2 ^ k → 2 * s.length ≤ (rows s (k + 1)).length + n
  | 0, n, h => by
    rw [rows_one]
    simp at h
    omega
  | k + 1, n, h => by
    have ih := rows_long s k (2 * n) (by rw [Nat.pow_succ] at h; rw [Nat.mul_comm 2 n, Nat.mul_assoc, Nat.mul_comm 2]; exact h)
    rw [rows_len]
    omega

/-- The first of a sorted row are the least. -/
theorem min_sum : ∀ (l t r : List Nat), l.Pairwise (· ≤ ·) → (t ++ r).Perm l → (l.take t.length).sum ≤ t.sum
  | [], t, r, _, hp => by simp
  | x :: l, t, r, hs, hp => by
    rw [List.pairwise_cons] at hs
    have hx : x ∈ t ++ r := hp.mem_iff.2 (by simp)
    by_cases h1 : x ∈ t
    · have e1 := List.perm_cons_erase h1
      have e2 : ((t.erase x) ++ r).Perm l := by
        have : (x :: ((t.erase x) ++ r)).Perm (x :: l) := ((e1.append_right r).symm.trans hp)
        exact this.cons_inv
      have ih := min_sum l (t.erase x) r hs.2 e2
      have e3 := e1.sum_nat
      have e4 := e1.length_eq
      rw [List.length_cons] at e4
      rw [e4, List.take_succ_cons, List.sum_cons, e3, List.sum_cons]
      omega
    · have h2 : x ∈ r := (List.mem_append.1 hx).resolve_left h1
      cases t with
      | nil => simp
      | cons y t =>
        have e1 := List.perm_cons_erase h2
        have hy : y ∈ x :: l := hp.mem_iff.1 (by simp)
        have hyx : x ≤ y := by
          rcases List.mem_cons.1 hy with h | h
          · omega
          · exact hs.1 y h
        have e2 : (t ++ (y :: r.erase x)).Perm l := by
          have h3 : (x :: (t ++ (y :: r.erase x))).Perm (y :: t ++ r) := by
            refine List.Perm.trans ?_ ((e1.append_left (y :: t)).symm)
            refine List.Perm.trans ((List.perm_middle (a := y) (l₁ := t) (l₂ := r.erase x)).cons x) ?_
            refine List.Perm.trans (List.Perm.swap y x _) ?_
            exact ((List.perm_middle (a := x) (l₁ := t) (l₂ := r.erase x)).symm).cons y
          exact (h3.trans hp).cons_inv
        have ih := min_sum l t (y :: r.erase x) hs.2 e2
        rw [List.length_cons, List.take_succ_cons, List.sum_cons, List.sum_cons]
        omega
theorem min_wt {α : Type} {l t r : List (Nat × α)} (hs : Sd l) (hp : (t ++ r).Perm l) : wt (l.take t.length) ≤ wt t := by
  have := min_sum (l.map Prod.fst) (t.map Prod.fst) (r.map Prod.fst) (List.pairwise_map.2 hs) (by rw [← List.map_append]; exact hp.map _)
  rw [List.length_map, ← List.map_take] at this
  exact this
theorem wt_take_le {α : Type} (l : List (Nat × α)) {a b : Nat} (h : a ≤ b) : wt (l.take a) ≤ wt (l.take b) := by
  have h1 : (l.take b).take a = l.take a := by rw [List.take_take, Nat.min_eq_left h]
  have h2 := wt_app ((l.take b).take a) ((l.take b).drop a)
  rw [List.take_append_drop, h1] at h2
  omega

/-- How many items others take, from below: all that they take of this row, and half of what they took of the last. -/
def many (A : Nat → List Bd) : Nat → Nat
  | 0 => 0
  | k + 1 => (A k).length + many A k / 2
def tot (A : Nat → List Bd) : Nat → Nat
  | 0 => 0
  | k + 1 => wt (A k) + tot A k
/-- Whatever is taken of each row's singles: so many items of the row weigh no more. -/
theorem least {s : List Bd} (hs : Sd s) (A R : Nat → List Bd) (hA : ∀ j, (A j ++ R j).Perm s) : ∀ k, many A k ≤ (rows s k).length ∧ wt ((rows s k).take (many A k)) ≤ tot A k
  | 0 => ⟨Nat.le_refl _, Nat.le_refl _⟩
  | k + 1 => by
    obtain ⟨h1, h2⟩ := least hs A R hA k
    have hl := (hA k).length_eq
    rw [List.length_append] at hl
    have hq : many A k / 2 ≤ (rows s k).length / 2 := Nat.div_le_div_right h1
    refine ⟨by rw [rows_len, many]; omega, ?_⟩
    have e1 := pairs_wt (rows s k) (many A k / 2) hq
    have e2 := wt_take_le (rows s k) (show 2 * (many A k / 2) ≤ many A k by omega)
    have hpl := pairs_len (rows s k)
    have hp : ((A k ++ (pairs (rows s k)).take (many A k / 2)) ++ (R k ++ (pairs (rows s k)).drop (many A k / 2))).Perm (rows s (k + 1)) := by
      refine List.Perm.trans ?_ (mrg_perm s (pairs (rows s k))).symm
      have h3 : ((A k ++ (pairs (rows s k)).take (many A k / 2)) ++ (R k ++ (pairs (rows s k)).drop (many A k / 2))).Perm ((A k ++ R k) ++ ((pairs (rows s k)).take (many A k / 2) ++ (pairs (rows s k)).drop (many A k / 2))) := by
        rw [List.append_assoc, List.append_assoc]
        refine List.Perm.append_left _ ?_
        rw [← List.append_assoc, ← List.append_assoc]
        exact List.Perm.append_right _ List.perm_append_comm
      rw [List.take_append_drop] at h3
      exact h3.trans ((hA k).append_right _)
    have h4 := min_wt (sd_rows hs (k + 1)) hp
    rw [List.length_append, List.length_take, Nat.min_eq_left (by omega), wt_app] at h4
    show wt ((rows s (k + 1)).take ((A k).length + many A k / 2)) ≤ wt (A k) + tot A k
    omega

/-- What the first m of a merged row are. -/
theorem split {α : Type} : ∀ (m : Nat) (s p : List (Nat × α)), Sd s → m ≤ s.length + p.length → ∃ a q, a + q = m ∧ a ≤ s.length ∧ q ≤ p.length ∧ ((mrg s p).take m).Perm (s.take a ++ p.take q) ∧ ∀ x ∈ p.take q, ∀ y ∈ s.drop a, x.1 ≤ y.1
  | 0, s, p, _, _ => ⟨0, 0, rfl, Nat.zero_le _, Nat.zero_le _, by simp, fun x h => by simp at h⟩
  | m + 1, [], p, _, h => ⟨0, m + 1, by omega, Nat.le_refl _, by simpa using h, by rw [nil_mrg]; simp, fun x _ y h => by simp at h⟩
  | m + 1, x :: s, [], _, h => ⟨m + 1, 0, rfl, by simpa using h, Nat.le_refl _, by rw [mrg_nil]; simp, fun x h => by simp at h⟩
  | m + 1, x :: s, y :: p, hs, h => by
    rw [List.length_cons, List.length_cons] at h
    by_cases hxy : x.1 ≤ y.1
    · obtain ⟨a, q, h1, h2, h3, h4, h5⟩ := split m s (y :: p) (List.Pairwise.of_cons hs) (by rw [List.length_cons]; omega)
      refine ⟨a + 1, q, by omega, by rw [List.length_cons]; omega, h3, ?_, h5⟩
      rw [mrg_le hxy, List.take_succ_cons, List.take_succ_cons, List.cons_append]
      exact h4.cons x
    · obtain ⟨a, q, h1, h2, h3, h4, h5⟩ := split m (x :: s) p hs (by rw [List.length_cons]; omega)
      refine ⟨a, q + 1, by omega, h2, by rw [List.length_cons]; omega, ?_, fun u hu v hv => ?_⟩
      · rw [mrg_gt (by omega), List.take_succ_cons, List.take_succ_cons]
        exact (h4.cons y).trans List.perm_middle.symm
      · rw [List.take_succ_cons, List.mem_cons] at hu
        rcases hu with rfl | hu
        · have hv' := List.mem_of_mem_drop hv
          rcases List.mem_cons.1 hv' with rfl | hv'
          · omega
          · have := List.rel_of_pairwise_cons hs hv'
            omega
        · exact h5 u hu v hv

end Pm
end Go.Proofs.YtjjjlilflbddoaaDoor
/-
  The lengths that package-merge gives are complete, and none are better. Nothing of the dump is imported.
-/
namespace Go.Proofs.YtjjjlilflbddoaaDoor
namespace Pm

def sg (c : Nat → Nat) (x : Nat) : Bd := (c x, [x])
def sing (c : Nat → Nat) (X : List Nat) : List Bd := X.map (sg c)
/-- The sum over a list. -/
def sm (X : List Nat) (f : Nat → Nat) : Nat := (X.map f).sum
def Ok (c : Nat → Nat) (X : List Nat) (b : Bd) : Prop := b.1 = sm b.2 c ∧ b.2 ≠ [] ∧ ∀ y ∈ b.2, y ∈ X

theorem sm_nil (f : Nat → Nat) : sm [] f = 0 := rfl
theorem sm_cons (x : Nat) (X : List Nat) (f : Nat → Nat) : sm (x :: X) f = f x + sm X f := by simp [sm]
theorem sm_app (X Y : List Nat) (f : Nat → Nat) : sm (X ++ Y) f = sm X f + sm Y f := by simp [sm]
theorem sm_congr {X : List Nat} {f g : Nat → Nat} (h : ∀ x ∈ X, f x = g x) : sm X f = sm X g := by unfold sm; rw [List.map_congr_left h]
theorem sm_add (f g : Nat → Nat) : ∀ X : List Nat, sm X (fun x => f x + g x) = sm X f + sm X g
  | [] => rfl
  | x :: X => by rw [sm_cons, sm_cons, sm_cons, sm_add f g X]; omega
theorem sm_const (C : Nat) : ∀ X : List Nat, sm X (fun _ => C) = X.length * C
  | [] => by simp [sm]
  | x :: X => by rw [sm_cons, sm_const C X, List.length_cons, Nat.add_mul]; omega
theorem sm_le {f g : Nat → Nat} : ∀ {X : List Nat}, (∀ x ∈ X, f x ≤ g x) → sm X f ≤ sm X g
  | [], _ => Nat.le_refl _
  | x :: X, h => by
    rw [sm_cons, sm_cons]
    have := h x (by simp)
    have := sm_le (X := X) (fun y hy => h y (by simp [hy]))
    omega
theorem sm_mul (C : Nat) (f : Nat → Nat) : ∀ X : List Nat, sm X (fun x => C * f x) = C * sm X f
  | [] => rfl
  | x :: X => by rw [sm_cons, sm_cons, sm_mul C f X, Nat.mul_add]
theorem sm_perm {X Y : List Nat} (h : X.Perm Y) (f : Nat → Nat) : sm X f = sm Y f := (h.map f).sum_nat
theorem sm_mem {f : Nat → Nat} : ∀ {X : List Nat} {x : Nat}, x ∈ X → f x ≤ sm X f
  | y :: X, x, h => by
    rw [sm_cons]
    rcases List.mem_cons.1 h with rfl | h
    · omega
    · have := sm_mem (f := f) h
      omega
theorem sm_if (p : Nat → Prop) [DecidablePred p] (f : Nat → Nat) : ∀ X : List Nat, sm (X.filter (fun x => decide (p x))) f = sm X (fun x => if p x then f x else 0)
  | [] => rfl
  | x :: X => by
    have ih := sm_if p f X
    by_cases h : p x
    · rw [List.filter_cons_of_pos (by simpa using h), sm_cons, sm_cons, ih, if_pos h]
    · rw [List.filter_cons_of_neg (by simpa using h), sm_cons, ih, if_neg h]; omega

theorem wt_sing (c : Nat → Nat) (X : List Nat) : wt (sing c X) = sm X c := by unfold wt sing sm; rw [List.map_map]; rfl
theorem syms_sing (c : Nat → Nat) : ∀ X : List Nat, syms (sing c X) = X
  | [] => rfl
  | x :: X => by
    have := syms_sing c X
    unfold syms sing at *
    rw [List.map_cons, List.flatMap_cons, this]
    rfl
theorem sing_len (c : Nat → Nat) (X : List Nat) : (sing c X).length = X.length := List.length_map _

theorem ok_rows (c : Nat → Nat) (X : List Nat) : ∀ k b, b ∈ rows (sing c X) k → Ok c X b
  | 0, b, h => by simp [rows] at h
  | k + 1, b, h => by
    rw [rows, mem_mrg] at h
    rcases h with h | h
    · obtain ⟨x, hx, rfl⟩ := List.mem_map.1 h
      exact ⟨by simp [sg, sm], by simp [sg], fun y hy => by rw [List.mem_singleton.1 hy]; exact hx⟩
    · obtain ⟨a, d, ha, hd, rfl⟩ := pairs_mem _ _ h
      obtain ⟨a1, a2, a3⟩ := ok_rows c X k a ha
      obtain ⟨d1, d2, d3⟩ := ok_rows c X k d hd
      refine ⟨?_, fun e => a2 (List.append_eq_nil_iff.1 e).1, fun y hy => (List.mem_append.1 hy).elim (a3 y) (d3 y)⟩
      show a.1 + d.1 = sm (a.2 ++ d.2) c
      rw [sm_app, a1, d1]
/-- A pair counts more than each of its symbols. -/
theorem pair_gt {c : Nat → Nat} {X : List Nat} (hc : ∀ x ∈ X, 0 < c x) {k : Nat} {b : Bd} (hb : b ∈ pairs (rows (sing c X) k)) {x : Nat} (hx : x ∈ b.2) : c x < b.1 := by
  obtain ⟨a, d, ha, hd, rfl⟩ := pairs_mem _ _ hb
  have hpos : ∀ e ∈ rows (sing c X) k, 0 < e.1 := fun e he => by
    obtain ⟨e1, e2, e3⟩ := ok_rows c X k e he
    obtain ⟨y, hy⟩ := List.exists_mem_of_ne_nil _ e2
    have := sm_mem (f := c) hy
    have := hc y (e3 y hy)
    omega
  have hap := hpos a ha
  have hdp := hpos d hd
  have a1 := (ok_rows c X k a ha).1
  have d1 := (ok_rows c X k d hd).1
  show c x < a.1 + d.1
  rcases List.mem_append.1 hx with h | h
  · have := sm_mem (f := c) h; omega
  · have := sm_mem (f := c) h; omega

theorem count_take {X : List Nat} (hX : X.Nodup) {a x : Nat} (h : x ∈ X.take a) : (X.take a).count x = 1 := (hX.sublist (List.take_sublist _ _)).count.trans (if_pos h)
theorem count_drop {X : List Nat} (hX : X.Nodup) {a x : Nat} (h : x ∈ X.drop a) : (X.take a).count x = 0 := by
  apply List.count_eq_zero_of_not_mem
  intro h2
  rw [← List.take_append_drop a X] at hX
  exact (List.nodup_append.1 hX).2.2 x h2 x h rfl

theorem kraft {c : Nat → Nat} {X : List Nat} (hX : X.Nodup) (hc : ∀ x ∈ X, 0 < c x) (hs : Sd (sing c X)) : ∀ k m, m ≤ (rows (sing c X) k).length →
    (∀ x ∈ X, (syms ((rows (sing c X) k).take m)).count x ≤ k) ∧ 2 * sm X (fun x => 2 ^ (k - (syms ((rows (sing c X) k).take m)).count x)) + m * 2 ^ k = X.length * 2 ^ (k + 1)
  | 0, m, h => by
    have h0 : m = 0 := by simpa [rows] using h
    subst h0
    refine ⟨fun x _ => by simp [rows, syms], ?_⟩
    have : sm X (fun x => 2 ^ (0 - (syms ((rows (sing c X) 0).take 0)).count x)) = sm X (fun _ => 1) := sm_congr (fun x _ => by simp)
    rw [this, sm_const]
    omega
  | k + 1, m, h => by
    have hl : (rows (sing c X) (k + 1)).length = (sing c X).length + (pairs (rows (sing c X) k)).length := by rw [rows, mrg_len]
    obtain ⟨a, q, e1, e2, e3, e4, e5⟩ := split m (sing c X) (pairs (rows (sing c X) k)) hs (by rw [hl] at h; exact h)
    rw [pairs_len] at e3
    rw [sing_len] at e2
    obtain ⟨i1, i2⟩ := kraft hX hc hs k (2 * q) (by omega)
    have hcnt : ∀ x, (syms ((rows (sing c X) (k + 1)).take m)).count x = (X.take a).count x + (syms ((rows (sing c X) k).take (2 * q))).count x := fun x => by
      have e6 : (syms ((rows (sing c X) (k + 1)).take m)).Perm (X.take a ++ syms ((rows (sing c X) k).take (2 * q))) := by
        rw [← pairs_syms _ _ e3]
        have e7 : syms ((sing c X).take a ++ (pairs (rows (sing c X) k)).take q) = X.take a ++ syms ((pairs (rows (sing c X) k)).take q) := by
          have e8 := syms_sing c (X.take a)
          unfold syms at e8 ⊢
          rw [List.flatMap_append]
          unfold sing at e8 ⊢
          rw [← List.map_take, e8]
        rw [← e7]
        exact e4.flatMap_right _
      rw [e6.count_eq, List.count_append]
    have hdrop : ∀ x ∈ X.drop a, (syms ((rows (sing c X) k).take (2 * q))).count x = 0 := fun x hx => by
      apply List.count_eq_zero_of_not_mem
      intro hm
      rw [← pairs_syms _ _ e3] at hm
      obtain ⟨b, hb, hxb⟩ := List.mem_flatMap.1 hm
      have h1 := pair_gt hc (List.mem_of_mem_take hb) hxb
      have h2 : sg c x ∈ (sing c X).drop a := by
        unfold sing
        rw [← List.map_drop]
        exact List.mem_map.2 ⟨x, hx, rfl⟩
      have h3 := e5 b hb _ h2
      have h4 : b.1 ≤ c x := h3
      omega
    have hmem : ∀ x ∈ X, x ∈ X.take a ∨ x ∈ X.drop a := fun x hx => List.mem_append.1 (by rw [List.take_append_drop]; exact hx)
    refine ⟨fun x hx => ?_, ?_⟩
    · rw [hcnt]
      rcases hmem x hx with h1 | h1
      · rw [count_take hX h1]; have := i1 x hx; omega
      · rw [count_drop hX h1, hdrop x h1]; omega
    · have f1 : sm (X.take a) (fun x => 2 ^ (k + 1 - (syms ((rows (sing c X) (k + 1)).take m)).count x)) = sm (X.take a) (fun x => 2 ^ (k - (syms ((rows (sing c X) k).take (2 * q))).count x)) :=
        sm_congr (fun x hx => by rw [hcnt, count_take hX hx, show ∀ z, k + 1 - (1 + z) = k - z from fun z => by omega])
      have f2 : sm (X.drop a) (fun x => 2 ^ (k + 1 - (syms ((rows (sing c X) (k + 1)).take m)).count x)) = sm (X.drop a) (fun x => 2 ^ (k - (syms ((rows (sing c X) k).take (2 * q))).count x)) + (X.drop a).length * 2 ^ k := by
        rw [← sm_const (2 ^ k), ← sm_add]
        refine sm_congr (fun x hx => ?_)
        rw [hcnt, count_drop hX hx, hdrop x hx, Nat.sub_zero, Nat.sub_zero, Nat.pow_succ]
        omega
      have f3 := sm_app (X.take a) (X.drop a) (fun x => 2 ^ (k + 1 - (syms ((rows (sing c X) (k + 1)).take m)).count x))
      have f4 := sm_app (X.take a) (X.drop a) (fun x => 2 ^ (k - (syms ((rows (sing c X) k).take (2 * q))).count x))
      rw [List.take_append_drop] at f3 f4
      rw [f3, f1, f2]
      rw [f4] at i2
      obtain ⟨r, hr⟩ : ∃ r, r = (X.drop a).length := ⟨_, rfl⟩
      have hn : X.length = a + r := by rw [hr, List.length_drop]; omega
      rw [← hr, hn, ← e1]
      rw [hn] at i2
      have p1 : 2 ^ (k + 1) = 2 * 2 ^ k := by rw [Nat.pow_succ]; omega
      have p2 : 2 ^ (k + 1 + 1) = 2 * (2 * 2 ^ k) := by rw [Nat.pow_succ, p1]; omega
      rw [p1] at i2 ⊢
      rw [p2]
      generalize 2 ^ k = P at *
      simp only [Nat.add_mul, Nat.mul_left_comm _ 2, Nat.mul_assoc 2] at *
      omega

/-! What others take. -/
section
variable (c l : Nat → Nat) (X : List Nat) (L : Nat)
def oA (j : Nat) : List Bd := sing c (X.filter (fun x => decide (L ≤ l x + j)))
def oR (j : Nat) : List Bd := sing c (X.filter (fun x => !decide (L ≤ l x + j)))
theorem o_perm (j : Nat) : (oA c l X L j ++ oR c l X L j).Perm (sing c X) := by
  unfold oA oR sing
  rw [← List.map_append]
  exact (List.filter_append_perm _ _).map _
def u (x : Nat) : Nat → Nat
  | 0 => 0
  | k + 1 => u x k + if L ≤ l x + k then 2 ^ k else 0
theorem o_len (k : Nat) : (oA c l X L k).length * 2 ^ k = sm X (fun x => if L ≤ l x + k then 2 ^ k else 0) := by
  unfold oA
  rw [sing_len, ← sm_const, sm_if (fun x => L ≤ l x + k)]
theorem many_ge : ∀ k, 2 * sm X (fun x => u l L x k) + 1 ≤ 2 ^ k * many (oA c l X L) k + 2 ^ k
  | 0 => by
    have : sm X (fun x => u l L x 0) = sm X (fun _ => 0) := rfl
    rw [this, sm_const]
    simp
  | k + 1 => by
    have ih := many_ge k
    have e1 : sm X (fun x => u l L x (k + 1)) = sm X (fun x => u l L x k) + (oA c l X L k).length * 2 ^ k := by rw [o_len, ← sm_add]; rfl
    rw [e1, many]
    have h : many (oA c l X L) k ≤ 2 * (many (oA c l X L) k / 2) + 1 := by omega
    have h2 := Nat.mul_le_mul_left (2 ^ k) h
    rw [Nat.pow_succ]
    generalize 2 ^ k = P at *
    generalize many (oA c l X L) k / 2 = M at *
    generalize many (oA c l X L) k = N at *
    generalize (oA c l X L k).length = R at *
    simp only [Nat.mul_add, Nat.mul_left_comm _ 2, Nat.mul_assoc _ 2, Nat.mul_one] at *
    rw [Nat.mul_comm R P]
    omega
theorem tot_eq (hl : ∀ x ∈ X, l x ≤ L) : ∀ k, tot (oA c l X L) k = sm X (fun x => c x * (l x + k - L))
  | 0 => by
    have : sm X (fun x => c x * (l x + 0 - L)) = sm X (fun _ => 0) := sm_congr (fun x hx => by have := hl x hx; rw [show l x + 0 - L = 0 by omega]; rfl)
    rw [this, sm_const]
    rfl
  | k + 1 => by
    rw [tot, tot_eq hl k, oA, wt_sing, sm_if (fun x => L ≤ l x + k), ← sm_add]
    refine sm_congr (fun x hx => ?_)
    by_cases h : L ≤ l x + k
    · rw [if_pos h, show l x + (k + 1) - L = (l x + k - L) + 1 by omega, Nat.mul_add]; omega
    · rw [if_neg h, show l x + (k + 1) - L = l x + k - L by omega]; omega
theorem u_eq (x : Nat) (h : l x ≤ L) : ∀ k, (L ≤ l x + k → u l L x k + 2 ^ (L - l x) = 2 ^ k) ∧ (l x + k < L → u l L x k = 0)
  | 0 => ⟨fun h2 => by rw [show L - l x = 0 by omega]; rfl, fun _ => rfl⟩
  | k + 1 => by
    obtain ⟨h1, h2⟩ := u_eq x h k
    refine ⟨fun h3 => ?_, fun h3 => ?_⟩
    · rw [u]
      by_cases h4 : L ≤ l x + k
      · have := h1 h4
        rw [if_pos h4, Nat.pow_succ]
        omega
      · rw [if_neg h4, h2 (by omega), show L - l x = k + 1 by omega]; omega
    · rw [u, if_neg (by omega), h2 (by omega)]
end

/-- Grouped by symbol. -/
theorem one_of {y : Nat} (f : Nat → Nat) : ∀ {X : List Nat}, X.Nodup → y ∈ X → sm X (fun x => if y = x then f x else 0) = f y
  | x :: X, hX, hy => by
    rw [List.nodup_cons] at hX
    rw [sm_cons]
    by_cases e : y = x
    · subst e
      rw [if_pos rfl]
      have : sm X (fun x => if y = x then f x else 0) = sm X (fun _ => 0) := sm_congr (fun z hz => if_neg (fun e : y = z => hX.1 (e ▸ hz)))
      rw [this, sm_const]
      omega
    · rw [if_neg e, one_of f hX.2 ((List.mem_cons.1 hy).resolve_left e)]; omega
theorem group (c : Nat → Nat) {X : List Nat} (hX : X.Nodup) : ∀ Y : List Nat, (∀ y ∈ Y, y ∈ X) → sm Y c = sm X (fun x => c x * Y.count x)
  | [], _ => by
    have : sm X (fun x => c x * ([] : List Nat).count x) = sm X (fun _ => 0) := sm_congr (fun x _ => by simp)
    rw [this, sm_const]
    rfl
  | y :: Y, h => by
    rw [sm_cons, group c hX Y (fun z hz => h z (by simp [hz])), ← one_of c hX (h y (by simp)), ← sm_add]
    refine sm_congr (fun x _ => ?_)
    rw [List.count_cons]
    by_cases e : y = x
    · subst e
      simp [Nat.mul_add]
      omega
    · simp [e]
theorem wt_syms {c : Nat → Nat} {X : List Nat} : ∀ l : List Bd, (∀ b ∈ l, Ok c X b) → wt l = sm (syms l) c
  | [], _ => rfl
  | b :: l, h => by
    have ih := wt_syms l (fun d hd => h d (by simp [hd]))
    rw [wt_cons, ih, (h b (by simp)).1, ← sm_app]
    rfl

/-- The lengths: how often a symbol is among the items taken. -/
def lenOf (c : Nat → Nat) (X : List Nat) (L : Nat) (x : Nat) : Nat := if X.length = 1 then (if x ∈ X then 1 else 0) else (syms ((rows (sing c X) L).take (2 * X.length - 2))).count x

section
variable {c : Nat → Nat} {X : List Nat} {L : Nat}
theorem long (hL : 0 < L) (hn : X.length ≤ 2 ^ L) : 2 * X.length - 2 ≤ (rows (sing c X) L).length := by
  obtain ⟨k, rfl⟩ : ∃ k, L = k + 1 := ⟨L - 1, by omega⟩
  have := rows_long (sing c X) k 2 (by rw [sing_len, Nat.mul_comm, ← Nat.pow_succ]; exact hn)
  rw [sing_len] at this
  omega
theorem lenOf_out {x : Nat} (hx : x ∉ X) : lenOf c X L x = 0 := by
  unfold lenOf
  rw [if_neg hx]
  split
  · rfl
  · apply List.count_eq_zero_of_not_mem
    intro h
    obtain ⟨b, hb, hxb⟩ := List.mem_flatMap.1 h
    exact hx ((ok_rows c X L b (List.mem_of_mem_take hb)).2.2 x hxb)
/-- What is asked of the symbols that come at all. -/
structure Hy (c : Nat → Nat) (X : List Nat) (L : Nat) : Prop where
  nd : X.Nodup
  pos : ∀ x ∈ X, 0 < c x
  sd : Sd (sing c X)
  l0 : 0 < L
  few : X.length ≤ 2 ^ L
theorem lenOf_le (H : Hy c X L) (x : Nat) : lenOf c X L x ≤ L := by
  by_cases hx : x ∈ X
  · unfold lenOf
    rw [if_pos hx]
    split
    · exact H.l0
    · exact (kraft H.nd H.pos H.sd L _ (long H.l0 H.few)).1 x hx
  · rw [lenOf_out hx]; omega
theorem lenOf_full (H : Hy c X L) (h2 : 2 ≤ X.length) : sm X (fun x => 2 ^ (L - lenOf c X L x)) = 2 ^ L := by
  have h := (kraft H.nd H.pos H.sd L _ (long H.l0 H.few)).2
  have e : sm X (fun x => 2 ^ (L - lenOf c X L x)) = sm X (fun x => 2 ^ (L - (syms ((rows (sing c X) L).take (2 * X.length - 2))).count x)) := sm_congr (fun x _ => by unfold lenOf; rw [if_neg (by omega)])
  rw [← e] at h
  obtain ⟨r, hr⟩ : ∃ r, X.length = r + 1 := ⟨X.length - 1, by omega⟩
  rw [hr, show 2 * (r + 1) - 2 = 2 * r by omega, Nat.pow_succ] at h
  generalize 2 ^ L = P at *
  generalize sm X (fun x => 2 ^ (L - lenOf c X L x)) = S at *
  simp only [Nat.add_mul, Nat.mul_assoc 2, Nat.mul_comm P 2, Nat.mul_left_comm r 2] at h
  omega
theorem lenOf_pos (H : Hy c X L) {x : Nat} (hx : x ∈ X) : 0 < lenOf c X L x := by
  by_cases h1 : X.length = 1
  · unfold lenOf; rw [if_pos h1, if_pos hx]; omega
  · have h2 : 2 ≤ X.length := by
      have : 0 < X.length := List.length_pos_of_mem hx
      omega
    have hf := lenOf_full H h2
    rcases Nat.eq_zero_or_pos (lenOf c X L x) with h0 | h0
    · exfalso
      have e := List.perm_cons_erase hx
      have e2 := sm_perm e (fun x => 2 ^ (L - lenOf c X L x))
      rw [sm_cons, hf, h0, Nat.sub_zero] at e2
      have e3 := e.length_eq
      rw [List.length_cons] at e3
      obtain ⟨y, hy⟩ := List.exists_mem_of_ne_nil (X.erase x) (fun h => by rw [h] at e3; simp at e3; omega)
      have := sm_mem (f := fun x => 2 ^ (L - lenOf c X L x)) hy
      have h5 : 0 < 2 ^ (L - lenOf c X L y) := Nat.pow_pos (by decide)
      omega
    · exact h0
/-- None are better. -/
theorem lenOf_best (H : Hy c X L) (l : Nat → Nat) (hl : ∀ x ∈ X, l x ≤ L) (hl0 : ∀ x ∈ X, 0 < l x) (hk : sm X (fun x => 2 ^ (L - l x)) ≤ 2 ^ L) : sm X (fun x => c x * lenOf c X L x) ≤ sm X (fun x => c x * l x) := by
  by_cases h1 : X.length = 1
  · refine sm_le (fun x hx => Nat.mul_le_mul_left _ ?_)
    have := hl0 x hx
    unfold lenOf
    rw [if_pos h1, if_pos hx]
    omega
  · by_cases h0 : X.length = 0
    · have : X = [] := List.eq_nil_of_length_eq_zero h0
      rw [this]
      exact Nat.le_refl _
    · have e1 : sm X (fun x => c x * lenOf c X L x) = wt ((rows (sing c X) L).take (2 * X.length - 2)) := by
        rw [wt_syms (c := c) (X := X) _ (fun b hb => ok_rows c X L b (List.mem_of_mem_take hb)), group c H.nd _ (fun y hy => by
          obtain ⟨b, hb, hyb⟩ := List.mem_flatMap.1 hy
          exact (ok_rows c X L b (List.mem_of_mem_take hb)).2.2 y hyb)]
        refine sm_congr (fun x _ => ?_)
        unfold lenOf
        rw [if_neg h1]
      have e2 := tot_eq c l X L hl L
      have e3 : sm X (fun x => c x * (l x + L - L)) = sm X (fun x => c x * l x) := sm_congr (fun x _ => by rw [Nat.add_sub_cancel])
      have e4 := least H.sd (oA c l X L) (oR c l X L) (o_perm c l X L) L
      have e5 := many_ge c l X L L
      have e6 : sm X (fun x => u l L x L) + sm X (fun x => 2 ^ (L - l x)) = X.length * 2 ^ L := by
        rw [← sm_add, ← sm_const]
        exact sm_congr (fun x hx => (u_eq l L x (hl x hx) L).1 (by omega))
      have e7 : 2 * X.length - 2 ≤ many (oA c l X L) L := by
        rcases Nat.lt_or_ge (many (oA c l X L) L) (2 * X.length - 2) with h | h
        · exfalso
          obtain ⟨r, hr⟩ : ∃ r, X.length = r + 1 := ⟨X.length - 1, by omega⟩
          have h8 : many (oA c l X L) L + 1 ≤ 2 * r := by omega
          have h9 := Nat.mul_le_mul_left (2 ^ L) h8
          rw [hr] at e6
          generalize 2 ^ L = P at *
          simp only [Nat.add_mul, Nat.mul_add, Nat.mul_left_comm _ 2, Nat.mul_one, Nat.one_mul] at *
          rw [Nat.mul_comm P r] at h9
          omega
        · exact h
      have e8 := wt_take_le (rows (sing c X) L) e7
      rw [e1, ← e3, ← e2]
      omega
end
end Pm
end Go.Proofs.YtjjjlilflbddoaaDoor
/-
  A stable sort of two sorted rows is their merge; the lengths of counted symbols. Nothing of the dump is imported.
-/
namespace Go.Proofs.YtjjjlilflbddoaaDoor
namespace Pm

/-- Of each key the same in the same order. -/
def St {α : Type} (x y : List (Nat × α)) : Prop := ∀ v, y.filter (fun b => b.1 == v) = x.filter (fun b => b.1 == v)
theorem St.refl {α : Type} (x : List (Nat × α)) : St x x := fun _ => rfl
theorem St.trans {α : Type} {x y z : List (Nat × α)} (h : St x y) (k : St y z) : St x z := fun v => (k v).trans (h v)
theorem St.symm {α : Type} {x y : List (Nat × α)} (h : St x y) : St y x := fun v => (h v).symm
theorem St.app {α : Type} {x y x' y' : List (Nat × α)} (h : St x y) (k : St x' y') : St (x ++ x') (y ++ y') := fun v => by rw [List.filter_append, List.filter_append, h v, k v]
/-- Two neighbours that have no key in common may change places. -/
theorem St.swap {α : Type} {x y : List (Nat × α)} (h : ∀ a ∈ x, ∀ b ∈ y, a.1 ≠ b.1) : St (x ++ y) (y ++ x) := fun v => by
  rw [List.filter_append, List.filter_append]
  by_cases hx : ∃ a ∈ x, a.1 = v
  · obtain ⟨a, ha, e⟩ := hx
    have : y.filter (fun b => b.1 == v) = [] := by
      rw [List.filter_eq_nil_iff]
      intro b hb
      have := h a ha b hb
      simp
      omega
    rw [this, List.append_nil, List.nil_append]
  · have : x.filter (fun b => b.1 == v) = [] := by
      rw [List.filter_eq_nil_iff]
      intro b hb
      simp
      exact fun e => hx ⟨b, hb, e⟩
    rw [this, List.append_nil, List.nil_append]
theorem St.mem {α : Type} {x y : List (Nat × α)} (h : St x y) {b : Nat × α} (hb : b ∈ y) : b ∈ x := by
  have : b ∈ y.filter (fun d => d.1 == b.1) := List.mem_filter.2 ⟨hb, by simp⟩
  rw [h b.1] at this
  exact (List.mem_filter.1 this).1
/-- There is one such order. -/
theorem uniq {α : Type} : ∀ {x y : List (Nat × α)}, Sd x → Sd y → St x y → y = x
  | [], [], _, _, _ => rfl
  | [], b :: y, _, _, h => by have := h.mem (b := b) (by simp); simp at this
  | a :: x, [], _, _, h => by have := h.symm.mem (b := a) (by simp); simp at this
  | a :: x, b :: y, hx, hy, h => by
    have hx' := List.pairwise_cons.1 hx
    have hy' := List.pairwise_cons.1 hy
    have h1 : a.1 ≤ b.1 := by
      rcases List.mem_cons.1 (h.mem (b := b) (by simp)) with e | e
      · rw [e]; exact Nat.le_refl _
      · exact hx'.1 b e
    have h2 : b.1 ≤ a.1 := by
      rcases List.mem_cons.1 (h.symm.mem (b := a) (by simp)) with e | e
      · rw [e]; exact Nat.le_refl _
      · exact hy'.1 a e
    have e : a.1 = b.1 := by omega
    have hv := h a.1
    rw [List.filter_cons_of_pos (by simpa using e.symm), List.filter_cons_of_pos (by simp)] at hv
    injection hv with e1 e2
    subst e1
    congr 1
    refine uniq hx'.2 hy'.2 (fun v => ?_)
    have hv := h v
    rw [List.filter_cons, List.filter_cons] at hv
    split at hv
    · injection hv
    · exact hv
theorem st_mrg {α : Type} : ∀ {s p : List (Nat × α)}, Sd s → St (s ++ p) (mrg s p)
  | [], p, _ => by rw [nil_mrg]; exact St.refl _
  | x :: s, [], _ => by rw [mrg_nil, List.append_nil]; exact St.refl _
  | x :: s, y :: p, hs => by
    by_cases h : x.1 ≤ y.1
    · rw [mrg_le h]
      have ih := st_mrg (s := s) (p := y :: p) (List.Pairwise.of_cons hs)
      exact (St.refl [x]).app ih
    · rw [mrg_gt (by omega)]
      have ih := st_mrg (s := x :: s) (p := p) hs
      have h1 : St ((x :: s) ++ [y]) ([y] ++ (x :: s)) := St.swap (fun a ha b hb => by
        rw [List.mem_singleton.1 hb]
        rcases List.mem_cons.1 ha with e | e
        · rw [e]; omega
        · have := List.rel_of_pairwise_cons hs e
          omega)
      have h2 := h1.app (St.refl p)
      rw [List.append_assoc, List.append_assoc] at h2
      exact h2.trans ((St.refl [y]).app ih)
/-- What a stable sort of a sorted row ahead of another makes. -/
theorem sorted_mrg {α : Type} {s p y : List (Nat × α)} (hs : Sd s) (hp : Sd p) (hy : Sd y) (h : St (s ++ p) y) : y = mrg s p := uniq (sd_mrg hs hp) hy ((st_mrg hs).symm.trans h)

theorem st_perm {α : Type} [DecidableEq α] {x y : List (Nat × α)} (h : St x y) : y.Perm x := by
  rw [List.perm_iff_count]
  intro b
  have e : ∀ l : List (Nat × α), l.count b = (l.filter (fun d => d.1 == b.1)).count b := fun l => (List.count_filter (by simp)).symm
  rw [e y, e x, h b.1]

/-! Counted symbols. -/
def cf (c : List Nat) (i : Nat) : Nat := c.getD i 0
/-- The symbols that come at all. -/
def cand (c : List Nat) : List Nat := (List.range c.length).filter (fun i => decide (0 < cf c i))
theorem cand_mem (c : List Nat) (i : Nat) : i ∈ cand c ↔ 0 < cf c i := by
  unfold cand
  rw [List.mem_filter, List.mem_range, decide_eq_true_eq]
  refine ⟨fun h => h.2, fun h => ⟨?_, h⟩⟩
  rcases Nat.lt_or_ge i c.length with h1 | h1
  · exact h1
  · unfold cf at h
    rw [List.getD, List.getElem?_eq_none h1] at h
    simp at h
theorem cand_nodup (c : List Nat) : (cand c).Nodup := List.nodup_range.sublist List.filter_sublist
theorem cand_len (c : List Nat) : (cand c).length ≤ c.length := by
  have := List.length_filter_le (fun i => decide (0 < cf c i)) (List.range c.length)
  rw [List.length_range] at this
  exact this
/-- Lengths, as good as can be. -/
structure Bst (c : List Nat) (L : Nat) (ln : List Nat) : Prop where
  len : ln.length = c.length
  le : ∀ i, cf ln i ≤ L
  pos : ∀ i, 0 < cf ln i ↔ 0 < cf c i
  full : 2 ≤ (cand c).length → sm (cand c) (fun i => 2 ^ (L - cf ln i)) = 2 ^ L
  one : (cand c).length = 1 → ∀ i, cf ln i ≤ 1
  best : ∀ l : Nat → Nat, (∀ i ∈ cand c, 0 < l i ∧ l i ≤ L) → sm (cand c) (fun i => 2 ^ (L - l i)) ≤ 2 ^ L → sm (cand c) (fun i => cf c i * cf ln i) ≤ sm (cand c) (fun i => cf c i * l i)
/-- The lengths that package-merge makes of counts, the singles in some order. -/
def lens (c : List Nat) (X : List Nat) (L : Nat) : List Nat := (List.range c.length).map (lenOf (cf c) X L)
theorem bst_lens {c X : List Nat} {L : Nat} (hX : X.Perm (cand c)) (hs : Sd (sing (cf c) X)) (hL : 0 < L) (hn : c.length ≤ 2 ^ L) : Bst c L (lens c X L) := by
  have H : Hy (cf c) X L := ⟨hX.nodup_iff.2 (cand_nodup c), fun x hx => (cand_mem c x).1 (hX.mem_iff.1 hx), hs, hL, by rw [hX.length_eq]; exact Nat.le_trans (cand_len c) hn⟩
  have hg : ∀ i, cf (lens c X L) i = lenOf (cf c) X L i := fun i => by
    unfold lens
    show ((List.range c.length).map (lenOf (cf c) X L)).getD i 0 = _
    rw [List.getD, List.getElem?_map]
    rcases Nat.lt_or_ge i c.length with h | h
    · rw [List.getElem?_range h]; rfl
    · rw [List.getElem?_eq_none (by simp; omega)]
      refine (lenOf_out (fun hm => ?_)).symm
      have := (cand_mem c i).1 (hX.mem_iff.1 hm)
      unfold cf at this
      rw [List.getD, List.getElem?_eq_none h] at this
      simp at this
  refine ⟨by simp [lens], fun i => by rw [hg]; exact lenOf_le H i, fun i => ?_, fun h2 => ?_, fun h1 i => ?_, fun l hl hk => ?_⟩
  · rw [hg, ← cand_mem, ← hX.mem_iff]
    refine ⟨fun h => ?_, fun h => lenOf_pos H h⟩
    rcases Classical.em (i ∈ X) with h1 | h1
    · exact h1
    · rw [lenOf_out h1] at h; omega
  · have := lenOf_full H (by rw [hX.length_eq]; exact h2)
    rw [← sm_perm hX]
    rw [← this]
    exact sm_congr (fun x _ => by rw [hg])
  · rw [hg]
    unfold lenOf
    rw [if_pos (by rw [hX.length_eq]; exact h1)]
    split <;> omega
  · rw [← sm_perm hX, ← sm_perm hX]
    rw [← sm_perm hX] at hk
    have := lenOf_best H l (fun x hx => (hl x (hX.mem_iff.1 hx)).2) (fun x hx => (hl x (hX.mem_iff.1 hx)).1) hk
    refine Nat.le_trans (Nat.le_of_eq (sm_congr (fun x _ => by rw [hg]))) this
/-- Singles in another order are singles. -/
theorem perm_sing {c : Nat → Nat} {X : List Nat} {y : List Bd} (h : y.Perm (sing c X)) : y = sing c (syms y) ∧ (syms y).Perm X := by
  have h1 : ∀ l : List Bd, (∀ b ∈ l, ∃ x, b = sg c x) → l = sing c (syms l) := by
    intro l
    induction l with
    | nil => intro _; rfl
    | cons b l ih =>
      intro hb
      obtain ⟨x, rfl⟩ := hb b (by simp)
      have := ih (fun d hd => hb d (by simp [hd]))
      show sg c x :: l = sg c x :: sing c (syms l)
      rw [← this]
  refine ⟨h1 y (fun b hb => ?_), ?_⟩
  · obtain ⟨x, _, e⟩ := List.mem_map.1 (h.mem_iff.1 hb)
    exact ⟨x, e.symm⟩
  · have := h.flatMap_right Prod.snd
    have e := syms_sing c X
    unfold syms at e ⊢
    rw [e] at this
    exact this
end Pm
end Go.Proofs.YtjjjlilflbddoaaDoor
