import Derived.Test.YtjjjlilflbddoaaDoorPure
namespace Go.Proofs.YtjjjlilflbddoaaDoor

/-- A code by which a walk stays within its lists. -/
structure Good (c : Gz.Code) : Prop where
  long : c.longest ≤ 15
  len : c.count.length = 16
  sum : c.count.sum ≤ c.symbols.length
  few : c.symbols.length ≤ 320
theorem bitv_lt (d : List UInt8) (p : Nat) : Gz.bitv d p < 2 := by unfold Gz.bitv; omega
theorem val_lt (d : List UInt8) (p : Nat) : ∀ n, Gz.val d p n < 2 ^ n
  | 0 => by simp [Gz.val]
  | n + 1 => by
    have h1 := val_lt d p n
    have h2 := bitv_lt d (p + n)
    simp only [Gz.val, Nat.pow_succ]
    have h3 : Gz.bitv d (p + n) = 0 ∨ Gz.bitv d (p + n) = 1 := by omega
    rcases h3 with h3 | h3 <;> rw [h3] <;> omega
theorem sum_take_le (l : List Nat) (n : Nat) : (l.take n).sum ≤ l.sum := by
  have h := List.take_append_drop n l
  have : l.sum = (l.take n).sum + (l.drop n).sum := by rw [← List.sum_append, h]
  omega
theorem sum_take_succ (l : List Nat) (n : Nat) (h : n < l.length) : (l.take (n + 1)).sum = (l.take n).sum + l.getD n 0 := by
  rw [List.take_succ_eq_append_getElem h, List.sum_append]; simp [List.getD, h]
/-- Lengths that are lengths. -/
def Lens (l : List Nat) : Prop := ∀ i, i < l.length → l.getD i 0 ≤ 15
def shareOf (n : Nat) : Nat := if 0 < n then 32768 / 2 ^ n else 0
theorem share_take (l : List Nat) (k : Nat) (h : k < l.length) : Gz.share (l.take (k + 1)) = Gz.share (l.take k) + shareOf (l.getD k 0) := by
  unfold Gz.share
  rw [List.take_succ_eq_append_getElem h, List.map_append, List.sum_append]
  simp only [shareOf, List.getD, List.getElem?_eq_getElem h, Option.getD_some, List.map_cons, List.map_nil, List.sum_cons, List.sum_nil, Nat.add_zero]
theorem shareOf_le (n : Nat) : shareOf n ≤ 32768 := by
  unfold shareOf; split
  · exact Nat.div_le_self _ _
  · omega
theorem share_le (l : List Nat) : ∀ k, Gz.share (l.take k) ≤ k * 32768
  | 0 => by simp [Gz.share]
  | k + 1 => by
    by_cases h : k < l.length
    · rw [share_take l k h]; have := share_le l k; have := shareOf_le (l.getD k 0); omega
    · rw [List.take_of_length_le (by omega)]; have h1 := share_le l k; rw [List.take_of_length_le (by omega)] at h1; exact Nat.le_trans h1 (Nat.mul_le_mul_right _ (by omega))
theorem sum_take_snoc (l : List Nat) (k : Nat) (h : k < l.length) : (l.take (k + 1)).sum = (l.take k).sum + l.getD k 0 := sum_take_succ l k h
theorem sum_take_15 (l : List Nat) (hl : Lens l) : ∀ k, k ≤ l.length → (l.take k).sum ≤ k * 15
  | 0, _ => by simp
  | k + 1, h => by rw [sum_take_succ l k (by omega)]; have := sum_take_15 l hl k (by omega); have := hl k (by omega); omega
theorem Lens.take {l : List Nat} (h : Lens l) (k : Nat) : Lens (l.take k) := fun i hi => by
  have h1 : i < l.length := by simp at hi; omega
  have h2 : i < k := by simp at hi; omega
  have e : (l.take k).getD i 0 = l.getD i 0 := by simp [List.getD, List.getElem?_take_of_lt h2]
  rw [e]; exact h i h1
theorem Lens.drop {l : List Nat} (h : Lens l) (k : Nat) : Lens (l.drop k) := fun i hi => by
  have h1 : k + i < l.length := by simp at hi; omega
  have e : (l.drop k).getD i 0 = l.getD (k + i) 0 := by simp [List.getD]
  rw [e]; exact h (k + i) h1
theorem counts_snoc (l : List Nat) (k : Nat) (h : k < l.length) : Gz.counts (l.take (k + 1)) = if 0 < l.getD k 0 then (Gz.counts (l.take k)).set (l.getD k 0) ((Gz.counts (l.take k)).getD (l.getD k 0) 0 + 1) else Gz.counts (l.take k) := by
  unfold Gz.counts
  rw [List.take_succ_eq_append_getElem h, List.foldl_append]
  simp [List.getD, h]
theorem max_snoc (l : List Nat) (k : Nat) (h : k < l.length) : (l.take (k + 1)).foldl max 0 = max ((l.take k).foldl max 0) (l.getD k 0) := by
  rw [List.take_succ_eq_append_getElem h, List.foldl_append]
  simp [List.getD, h]
theorem counts_length (l : List Nat) : (Gz.counts l).length = 16 := by
  unfold Gz.counts
  have : ∀ (l c : List Nat), c.length = 16 → (l.foldl (fun c n => if 0 < n then c.set n (c.getD n 0 + 1) else c) c).length = 16 := by
    intro l
    induction l with
    | nil => intro c h; simpa using h
    | cons a r ih => intro c h; simp only [List.foldl_cons]; apply ih; split <;> simp [h]
  exact this l _ (by simp)
theorem sum_set (c : List Nat) (n : Nat) (h : n < c.length) : (c.set n (c.getD n 0 + 1)).sum = c.sum + 1 := by
  induction c generalizing n with
  | nil => simp at h
  | cons a r ih =>
    cases n with
    | zero => simp; omega
    | succ n => simp at h; have := ih n h; simp [List.getD] at this ⊢; omega
theorem getD_le_sum (c : List Nat) (n : Nat) : c.getD n 0 ≤ c.sum := by
  induction c generalizing n with
  | nil => simp
  | cons a r ih =>
    cases n with
    | zero => simp
    | succ n => have := ih n; simp [List.getD] at this ⊢; omega
theorem counts_sum (l : List Nat) (hl : Lens l) : ∀ k, k ≤ l.length → (Gz.counts (l.take k)).sum ≤ k
  | 0, _ => by simp [Gz.counts]
  | k + 1, h => by
    rw [counts_snoc l k (by omega)]
    have h1 := counts_sum l hl k (by omega)
    split
    · rw [sum_set _ _ (by rw [counts_length]; have := hl k (by omega); omega)]; omega
    · omega
theorem getD_set_same (c : List Nat) (n x : Nat) (h : n < c.length) : (c.set n x).getD n 0 = x := by simp [List.getD, h]
theorem getD_set_ne (c : List Nat) (m n x : Nat) (h : m ≠ n) : (c.set m x).getD n 0 = c.getD n 0 := by simp only [List.getD]; rw [List.getElem?_set_ne h]
/-- The places, as far as they are reckoned. -/
def plk (ct : List Nat) (k : Nat) : List Nat := (List.range 17).map fun i => if i ≤ k then (ct.take i).sum else 0
theorem plk_len (ct : List Nat) (k : Nat) : (plk ct k).length = 17 := by simp [plk]
theorem plk_get (ct : List Nat) (k i : Nat) (hi : i < 17) : (plk ct k).getD i 0 = if i ≤ k then (ct.take i).sum else 0 := by
  simp [plk, List.getD, hi]
theorem plk_zero (ct : List Nat) : plk ct 0 = List.replicate 17 0 := by
  apply List.ext_getElem
  · simp [plk]
  · intro i h1 h2
    simp only [plk, List.getElem_map, List.getElem_range, List.getElem_replicate]
    by_cases e : i ≤ 0
    · have : i = 0 := by omega
      subst this; rfl
    · rw [if_neg e]
theorem plk_end (ct : List Nat) : plk ct 16 = Gz.places ct := by
  unfold plk Gz.places
  apply List.map_congr_left
  intro i hi
  have : i < 17 := by simpa using hi
  rw [if_pos (by omega)]
theorem plk_succ (ct : List Nat) (k : Nat) (h : ct.length = 16) (hk : k < 16) : (plk ct k).set (k + 1) ((plk ct k).getD k 0 + ct.getD k 0) = plk ct (k + 1) := by
  rw [plk_get ct k k (by omega), if_pos (Nat.le_refl _)]
  apply List.ext_getElem
  · simp [plk]
  · intro i h1 h2
    have hi : i < 17 := by simpa [plk] using h2
    simp only [plk, List.getElem_set, List.getElem_map, List.getElem_range]
    by_cases e : k + 1 = i
    · subst e; rw [if_pos rfl, if_pos (Nat.le_refl _), sum_take_succ ct k (by omega)]
    · rw [if_neg e]
      by_cases e2 : i ≤ k
      · rw [if_pos e2, if_pos (by omega)]
      · rw [if_neg e2, if_neg (by omega)]
/-- The symbols, as far as they are laid. -/
def fillTo (l : List Nat) (k : Nat) : List Nat × List Nat :=
  (((List.range l.length).zip l).take k).foldl Gz.fillStep (List.replicate (Gz.counts l).sum 0, Gz.places (Gz.counts l))
theorem fillTo_end (l : List Nat) : fillTo l l.length = Gz.fill l := by
  unfold fillTo Gz.fill
  rw [List.take_of_length_le (by simp)]
theorem fillTo_succ (l : List Nat) (k : Nat) (h : k < l.length) : fillTo l (k + 1) = Gz.fillStep (fillTo l k) (k, l.getD k 0) := by
  unfold fillTo
  rw [List.take_succ_eq_append_getElem (by simpa using h), List.foldl_append]
  simp [List.getD, h]
/-- How many of the first k have length n. -/
theorem fill_inv (l : List Nat) (hl : Lens l) : ∀ k, k ≤ l.length → (fillTo l k).1.length = (Gz.counts l).sum ∧ (fillTo l k).2.length = 17 ∧ ∀ n, 0 < n → n < 16 → (fillTo l k).2.getD n 0 = ((Gz.counts l).take n).sum + (Gz.counts (l.take k)).getD n 0
  | 0, _ => by
    refine ⟨by simp [fillTo], by simp [fillTo, Gz.places], fun n h0 h16 => ?_⟩
    have : (Gz.counts (l.take 0)).getD n 0 = 0 := by simp only [List.take_zero, Gz.counts, List.foldl_nil]; rw [List.getD, List.getElem?_replicate]; split <;> rfl
    rw [this]
    show (Gz.places (Gz.counts l)).getD n 0 = _
    simp [Gz.places, List.getD, show n < 17 by omega]
  | k + 1, h => by
    obtain ⟨h1, h2, h3⟩ := fill_inv l hl k (by omega)
    have h15 := hl k (by omega)
    rw [fillTo_succ l k (by omega)]
    have hc := counts_snoc l k (by omega)
    rw [hc]
    unfold Gz.fillStep
    by_cases hn : 0 < l.getD k 0
    · rw [if_pos hn, if_pos hn]
      refine ⟨by simpa using h1, by simpa using h2, fun n h0 h16 => ?_⟩
      have hcl := counts_length (l.take k)
      by_cases e : l.getD k 0 = n
      · subst e
        have := h3 (l.getD k 0) h0 h16
        rw [getD_set_same _ _ _ (by rw [h2]; omega), getD_set_same _ _ _ (by rw [hcl]; omega)]
        dsimp only
        omega
      · rw [getD_set_ne _ _ _ _ e, getD_set_ne _ _ _ _ e]
        exact h3 n h0 h16
    · rw [if_neg hn, if_neg hn]
      exact ⟨h1, h2, h3⟩
/-- The counts only rise. -/
theorem counts_mono (l : List Nat) (hl : Lens l) (n k : Nat) : ∀ j, k + j ≤ l.length → (Gz.counts (l.take k)).getD n 0 ≤ (Gz.counts (l.take (k + j))).getD n 0
  | 0, _ => Nat.le_refl _
  | j + 1, h => by
    have ih := counts_mono l hl n k j (by omega)
    have hc := counts_snoc l (k + j) (by omega)
    rw [show k + (j + 1) = (k + j) + 1 by omega, hc]
    split
    · by_cases e : l.getD (k + j) 0 = n
      · subst e
        have hx : l.getD (k + j) 0 < (Gz.counts (l.take (k + j))).length := by rw [counts_length]; have := hl (k + j) (by omega); omega
        rw [getD_set_same _ _ _ hx]; omega
      · rw [getD_set_ne _ _ _ _ e]; exact ih
    · exact ih
/-- The place that is written lies within. -/
theorem fill_lt (l : List Nat) (hl : Lens l) (k : Nat) (h : k < l.length) (h0 : 0 < l.getD k 0) : (fillTo l k).2.getD (l.getD k 0) 0 < (Gz.counts l).sum := by
  have h15 := hl k h
  rw [(fill_inv l hl k (by omega)).2.2 _ h0 (by omega)]
  have hm := counts_mono l hl (l.getD k 0) (k + 1) (l.length - (k + 1)) (by omega)
  rw [show k + 1 + (l.length - (k + 1)) = l.length by omega, List.take_length, counts_snoc l k h, if_pos h0] at hm
  have hcl := counts_length (l.take k)
  rw [getD_set_same _ _ _ (by rw [hcl]; omega)] at hm
  have hs := sum_take_succ (Gz.counts l) (l.getD k 0) (by rw [counts_length]; omega)
  have ht := sum_take_le (Gz.counts l) (l.getD k 0 + 1)
  omega
theorem fill_small' (l : List Nat) (h0 : 0 < l.length) : ∀ k, k ≤ l.length → ∀ j, (fillTo l k).1.getD j 0 < l.length
  | 0, _ => fun j => by simp only [fillTo, List.take_zero, List.foldl_nil]; rw [List.getD, List.getElem?_replicate]; split <;> simp <;> exact h0
  | k + 1, h => fun j => by
    rw [fillTo_succ l k (by omega)]
    have ih := fill_small' l h0 k (by omega)
    unfold Gz.fillStep
    split
    · by_cases e : (fillTo l k).2.getD (k, l.getD k 0).2 0 = j
      · subst e
        dsimp only
        by_cases hj : (fillTo l k).2.getD (l.getD k 0) 0 < (fillTo l k).1.length
        · rw [getD_set_same _ _ _ hj]; omega
        · rw [List.getD, List.getElem?_eq_none (by rw [List.length_set]; omega)]; simp; exact h0
      · dsimp only; rw [getD_set_ne _ _ _ _ e]; exact ih j
    · exact ih j
theorem makeCode_small (l : List Nat) (h0 : 0 < l.length) (j : Nat) : (Gz.makeCode l).symbols.getD j 0 < l.length := by
  have := fill_small' l h0 l.length (Nat.le_refl _) j
  rw [fillTo_end] at this
  exact this
theorem makeCode_good (l : List Nat) (hl : Lens l) (hn : l.length ≤ 320) : Good (Gz.makeCode l) := by
  have hi := fill_inv l hl l.length (Nat.le_refl _)
  rw [fillTo_end] at hi
  have hs := counts_sum l hl l.length (Nat.le_refl _)
  rw [List.take_length] at hs
  refine ⟨?_, counts_length l, ?_, ?_⟩
  · have : ∀ k, k ≤ l.length → (l.take k).foldl max 0 ≤ 15 := by
      intro k
      induction k with
      | zero => intro _; simp
      | succ k ih => intro h; rw [max_snoc l k (by omega)]; have := ih (by omega); have := hl k (by omega); omega
    have h2 := this l.length (Nat.le_refl _)
    rw [List.take_length] at h2
    exact h2
  · show (Gz.counts l).sum ≤ (Gz.fill l).1.length
    omega
  · show (Gz.fill l).1.length ≤ 320
    omega
theorem symGo_ok (d : List UInt8) (c : Gz.Code) : ∀ (m n taken first shorter p v q : Nat), Gz.symGo d c m n taken first shorter p = .ok (v, q) → p < q ∧ q ≤ 8 * d.length
  | 0, _, _, _, _, _, _, _, h => by simp [Gz.symGo] at h
  | m + 1, n, taken, first, shorter, p, v, q, h => by
    unfold Gz.symGo at h
    split at h
    · split at h
      · injection h with hpp; injection hpp with h1 h2; omega
      · have := symGo_ok d c m _ _ _ _ _ v q h; omega
    · cases h
theorem sym_ok {d : List UInt8} {c : Gz.Code} {p v q : Nat} (h : Gz.sym d c p = .ok (v, q)) : p < q ∧ q ≤ 8 * d.length := symGo_ok d c _ _ _ _ _ _ _ _ h
theorem symGo_bad (d : List UInt8) (c : Gz.Code) : ∀ (m n taken first shorter p k : Nat), Gz.symGo d c m n taken first shorter p = .error k → k = 2 ∨ k = 6
  | 0, _, _, _, _, _, _, h => by simp [Gz.symGo] at h; omega
  | m + 1, n, taken, first, shorter, p, k, h => by
    unfold Gz.symGo at h
    split at h
    · split at h
      · cases h
      · exact symGo_bad d c m _ _ _ _ _ k h
    · injection h with h1; omega
theorem farFrom_le (v : Nat) : Gz.distFrom[v]?.getD 0 ≤ 24577 := by
  by_cases h : v < 30
  · have : ∀ v, v < 30 → Gz.distFrom[v]?.getD 0 ≤ 24577 := by decide
    exact this v h
  · rw [List.getElem?_eq_none (by simp [Gz.distFrom]; omega)]; simp
theorem lenFrom_le (v : Nat) : Gz.lenFrom[v]?.getD 0 ≤ 258 := by
  by_cases h : v < 29
  · have : ∀ v, v < 29 → Gz.lenFrom[v]?.getD 0 ≤ 258 := by decide
    exact this v h
  · rw [List.getElem?_eq_none (by simp [Gz.lenFrom]; omega)]; simp
theorem lenBits_le (sy : Nat) (h : sy ≤ 285) : Gz.lenBits sy ≤ 5 := by unfold Gz.lenBits; split <;> omega
theorem dist_pos {d : List UInt8} {c : Gz.Code} {p far q : Nat} (h : Gz.dist d c p = .ok (far, q)) : 0 < far := by
  unfold Gz.dist at h
  cases hs : Gz.sym d c p with
  | error k => rw [hs] at h; cases h
  | ok okk =>
    obtain ⟨s, p1⟩ := okk
    rw [hs] at h
    simp only [Gz.Out.bind] at h
    split at h
    · cases h
    · unfold Gz.num at h
      split at h
      · rename_i h29 _
        injection h with hpp; injection hpp with h1 h2
        have : ∀ s, s < 30 → 0 < Gz.distFrom.getD s 0 := by decide
        have := this s (by omega)
        omega
      · cases h
theorem ofNat_toNat (n : Nat) (h : n < 256) : (n : Int) = ((UInt8.ofNat n).toNat : Int) := by simp [UInt8.toNat_ofNat']; omega
theorem num_ok {d : List UInt8} {n p v q : Nat} (h : Gz.num d n p = .ok (v, q)) : q = p + n ∧ q ≤ 8 * d.length := by
  unfold Gz.num at h; split at h
  · injection h with hpp; injection hpp with h1 h2; omega
  · cases h
theorem dist_ok {d : List UInt8} {c : Gz.Code} {p far q : Nat} (h : Gz.dist d c p = .ok (far, q)) : p ≤ q ∧ q ≤ 8 * d.length := by
  unfold Gz.dist at h
  cases hs : Gz.sym d c p with
  | error k => rw [hs] at h; cases h
  | ok okk =>
    obtain ⟨s, p1⟩ := okk
    have h1 := sym_ok hs
    rw [hs] at h
    simp only [Gz.Out.bind] at h
    split at h
    · cases h
    · cases hm : Gz.num d (Gz.distBits s) p1 with
      | error k => rw [hm] at h; cases h
      | ok okk =>
        obtain ⟨v, p2⟩ := okk
        have h2 := num_ok hm
        rw [hm] at h; injection h with hpp; injection hpp with _ h3; omega
theorem rep_ok {d : List UInt8} {t : Gz.Table} {lim sy p q : Nat} {out o : List UInt8} (h : Gz.rep d t lim sy out p = .ok (o, q)) : p ≤ q ∧ q ≤ 8 * d.length := by
  unfold Gz.rep at h
  cases hm : Gz.num d (Gz.lenBits sy) p with
  | error k => rw [hm] at h; cases h
  | ok okk =>
    obtain ⟨v, p1⟩ := okk
    have h1 := num_ok hm
    rw [hm] at h
    simp only [Gz.Out.bind] at h
    cases hs : Gz.dist d t.dists p1 with
    | error k => rw [hs] at h; cases h
    | ok okk =>
      obtain ⟨far, p2⟩ := okk
      have h2 := dist_ok hs
      rw [hs] at h
      simp only at h
      split at h
      · cases h
      · split at h
        · cases h
        · injection h with hpp; injection hpp with _ h3; omega
theorem obey_ok {d : List UInt8} {t : Gz.Table} {lim sy p q : Nat} {out : List UInt8} {x : List UInt8 × Bool} (h : Gz.obey d t lim sy out p = .ok (x, q)) (hp : p ≤ 8 * d.length) : p ≤ q ∧ q ≤ 8 * d.length := by
  unfold Gz.obey at h
  split at h
  · split at h
    · cases h
    · injection h with hpp; injection hpp with _ h3; omega
  · split at h
    · injection h with hpp; injection hpp with _ h3; omega
    · split at h
      · cases hs : Gz.rep d t lim sy out p with
        | error k => rw [hs] at h; cases h
        | ok okk =>
          obtain ⟨o, q'⟩ := okk
          have h2 := rep_ok hs
          rw [hs] at h; injection h with hpp; injection hpp with _ h3; omega
      · cases h
theorem iter_more {σ ρ : Type} {N : Nat} {step : σ → Nat → Gz.Out (σ ⊕ ρ)} {s s' : σ} {p q : Nat} (h : step s p = .ok ((.inl s'), q)) (h1 : p < q) (h2 : q ≤ N) : Gz.iter N step s p = Gz.iter N step s' q := by
  rw [Gz.iter_eq, h]; simp only; rw [if_pos ⟨h1, h2⟩]
theorem iter_end {σ ρ : Type} {N : Nat} {step : σ → Nat → Gz.Out (σ ⊕ ρ)} {s : σ} {r : ρ} {p q : Nat} (h : step s p = .ok ((.inr r), q)) : Gz.iter N step s p = .ok (r, q) := by
  rw [Gz.iter_eq, h]
theorem iter_bad {σ ρ : Type} {N : Nat} {step : σ → Nat → Gz.Out (σ ⊕ ρ)} {s : σ} {p k : Nat} (h : step s p = .error k) : Gz.iter N step s p = .error k := by
  rw [Gz.iter_eq, h]
theorem bytes_ok {d : List UInt8} {lim : Nat} : ∀ {n : Nat} {out o : List UInt8} {p q : Nat}, Gz.bytes d lim n out p = .ok (o, q) → p ≤ 8 * d.length → p ≤ q ∧ q ≤ 8 * d.length
  | 0, out, o, p, q, h, hp => by injection h with hpp; injection hpp with h1 h2; omega
  | n + 1, out, o, p, q, h, hp => by
    unfold Gz.bytes at h
    cases hm : Gz.num d 8 p with
    | error k => rw [hm] at h; cases h
    | ok okk =>
      obtain ⟨v, p1⟩ := okk
      have h1 := num_ok hm
      rw [hm] at h
      simp only [Gz.Out.bind] at h
      split at h
      · cases h
      · have := bytes_ok h h1.2; omega
theorem symGo_lt (d : List UInt8) (c : Gz.Code) (N : Nat) (hc : ∀ j, c.symbols.getD j 0 < N) : ∀ (m n taken first shorter p v q : Nat), Gz.symGo d c m n taken first shorter p = .ok (v, q) → v < N
  | 0, _, _, _, _, _, _, _, h => by simp [Gz.symGo] at h
  | m + 1, n, taken, first, shorter, p, v, q, h => by
    unfold Gz.symGo at h
    split at h
    · split at h
      · injection h with hpp; injection hpp with h1 h2; rw [← h1]; exact hc _
      · exact symGo_lt d c N hc m _ _ _ _ _ v q h
    · cases h
theorem lastD (l : List Nat) : l.getLastD 0 = l.getD (l.length - 1) 0 := by rw [List.getLastD_eq_getLast?, List.getLast?_eq_getElem?]; rfl
theorem run_bad {d : List UInt8} {sy p k : Nat} (h : Gz.run d sy p = .error k) : k = 2 := by
  unfold Gz.run Gz.num at h
  split at h
  · split at h <;> simp [Gz.Out.bind] at h; omega
  · split at h
    · split at h <;> simp [Gz.Out.bind] at h; omega
    · split at h
      · split at h <;> simp [Gz.Out.bind] at h; omega
      · cases h
theorem run_ok {d : List UInt8} {sy p q : Nat} {x : Nat × Nat} (h : Gz.run d sy p = .ok (x, q)) (hp : p ≤ 8 * d.length) : p ≤ q ∧ q ≤ 8 * d.length ∧ 1 ≤ x.2 ∧ x.2 ≤ 138 ∧ (sy < 16 → x.1 = sy) ∧ (16 ≤ sy → sy < 19 → x.1 = 0) := by
  unfold Gz.run Gz.num at h
  have v2 := val_lt d p 2
  have v3 := val_lt d p 3
  have v7 := val_lt d p 7
  split at h
  · split at h
    · simp only [Gz.Out.bind] at h; injection h with hpp; injection hpp with h1 h2; subst h1; simp; omega
    · cases h
  · split at h
    · split at h
      · simp only [Gz.Out.bind] at h; injection h with hpp; injection hpp with h1 h2; subst h1; simp; omega
      · cases h
    · split at h
      · split at h
        · simp only [Gz.Out.bind] at h; injection h with hpp; injection hpp with h1 h2; subst h1; simp; omega
        · cases h
      · injection h with hpp; injection hpp with h1 h2; subst h1; simp; omega
theorem lens_set {l : List Nat} {i x : Nat} (h : Lens l) (hx : x ≤ 15) : Lens (l.set i x) := by
  intro j hj
  by_cases e : i = j
  · subst e; rw [getD_set_same _ _ _ (by simpa using hj)]; omega
  · rw [getD_set_ne _ _ _ _ e]; exact h j (by simpa using hj)
theorem order_le (k : Nat) (h : k < 19) : Gz.order.getD k 0 < 19 := by
  have : ∀ k, k < 19 → Gz.order.getD k 0 < 19 := by decide
  exact this k h
end Go.Proofs.YtjjjlilflbddoaaDoor
