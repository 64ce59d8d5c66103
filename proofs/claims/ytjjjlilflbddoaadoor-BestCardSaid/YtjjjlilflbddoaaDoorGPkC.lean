import Derived.Test.YtjjjlilflbddoaaDoorGPure
import Derived.Test.YtjjjlilflbddoaaDoorGPkA
/-
  The document's codes against the counted ones.
-/
namespace Go.Proofs.YtjjjlilflbddoaaDoor


/-- How many of the first i have length n. -/
def rk (l : List Nat) (i n : Nat) : Nat := (Gz.counts (l.take i)).getD n 0
theorem rk_zero (l : List Nat) (n : Nat) : rk l 0 n = 0 := by
  unfold rk Gz.counts
  rw [List.take_zero, List.foldl_nil, List.getD, List.getElem?_replicate]
  split <;> rfl
theorem rk_succ (l : List Nat) (hl : Lens l) (i n : Nat) (h : i < l.length) (h0 : 0 < n) : rk l (i + 1) n = rk l i n + (if l.getD i 0 = n then 1 else 0) := by
  unfold rk
  rw [counts_snoc l i h]
  have h15 := hl i h
  by_cases e : l.getD i 0 = n
  · rw [if_pos e, e, if_pos h0, getD_set_same _ _ _ (by rw [counts_length]; omega)]
  · rw [if_neg e]
    split
    · rw [getD_set_ne _ _ _ _ e]; rfl
    · rfl
theorem rk_all (l : List Nat) (n : Nat) : rk l l.length n = (Gz.counts l).getD n 0 := by unfold rk; rw [List.take_length]
theorem rk_mono (l : List Nat) (hl : Lens l) (n i j : Nat) (h : i ≤ j) (hj : j ≤ l.length) : rk l i n ≤ rk l j n := by
  have := counts_mono l hl n i (j - i) (by omega)
  rw [show i + (j - i) = j by omega] at this
  exact this
theorem rk_nil (l : List Nat) : ∀ i, i ≤ l.length → rk l i 0 = 0
  | 0, _ => rk_zero l 0
  | i + 1, h => by
    have ih := rk_nil l i (by omega)
    unfold rk at *
    rw [counts_snoc l i (by omega)]
    split
    · rw [getD_set_ne _ _ _ _ (by omega)]; exact ih
    · exact ih
theorem counts_nil (l : List Nat) : (Gz.counts l).getD 0 0 = 0 := by rw [← rk_all]; exact rk_nil l _ (Nat.le_refl _)
theorem rk_lt (l : List Nat) (hl : Lens l) (i n : Nat) (h : i < l.length) (h0 : 0 < n) (e : l.getD i 0 = n) : rk l i n < (Gz.counts l).getD n 0 := by
  have h1 := rk_succ l hl i n h h0
  rw [if_pos e] at h1
  have h2 := rk_mono l hl n (i + 1) l.length (by omega) (Nat.le_refl _)
  rw [rk_all] at h2
  omega
/-- Each place is somebody's. -/
theorem rk_ex (l : List Nat) (hl : Lens l) (n r : Nat) (h0 : 0 < n) : ∀ k, k ≤ l.length → r < rk l k n → ∃ i, i < k ∧ l.getD i 0 = n ∧ rk l i n = r
  | 0, _, hr => by rw [rk_zero] at hr; omega
  | k + 1, hk, hr => by
    rw [rk_succ l hl k n (by omega) h0] at hr
    by_cases h : r < rk l k n
    · obtain ⟨i, h1, h2, h3⟩ := rk_ex l hl n r h0 k (by omega) h
      exact ⟨i, by omega, h2, h3⟩
    · split at hr
      · rename_i e; exact ⟨k, by omega, e, by omega⟩
      · omega

/-- What the codes of length n begin with, halved. -/
def fst (c : List Nat) : Nat → Nat
  | 0 => 0
  | n + 1 => 2 * fst c n + c.getD n 0

/-- The document's codes. -/
def codes (l : List Nat) : List Nat := (List.range l.length).map fun i => if 0 < l.getD i 0 then 2 * fst (Gz.counts l) (l.getD i 0) + rk l i (l.getD i 0) else 0
theorem codes_len (l : List Nat) : (codes l).length = l.length := by simp [codes]
theorem codes_get (l : List Nat) (i : Nat) (h : i < l.length) : (codes l).getD i 0 = if 0 < l.getD i 0 then 2 * fst (Gz.counts l) (l.getD i 0) + rk l i (l.getD i 0) else 0 := by
  simp [codes, List.getD, h]

theorem sum_take_mono (c : List Nat) (i j : Nat) (h : i ≤ j) : (c.take i).sum ≤ (c.take j).sum := by
  have e : c.take i = (c.take j).take i := by rw [List.take_take, Nat.min_eq_left h]
  rw [e]; exact sum_take_le _ _

/-- Where each symbol lies. -/
theorem fill_at (l : List Nat) (hl : Lens l) : ∀ k, k ≤ l.length → ∀ i, i < k → 0 < l.getD i 0 → (fillTo l k).1.getD (((Gz.counts l).take (l.getD i 0)).sum + rk l i (l.getD i 0)) 0 = i
  | 0, _, i, hi, _ => by omega
  | k + 1, hk, i, hi, h0 => by
    have hinv := fill_inv l hl k (by omega)
    have hlk := hl k (by omega)
    have hli := hl i (by omega)
    rw [fillTo_succ l k (by omega)]
    unfold Gz.fillStep
    by_cases hk0 : 0 < l.getD k 0
    · have hp := hinv.2.2 (l.getD k 0) hk0 (by omega)
      have hlt := fill_lt l hl k (by omega) hk0
      simp only [if_pos hk0]
      rw [hp]
      rw [hp] at hlt
      by_cases e : i = k
      · subst e
        exact getD_set_same _ _ _ (by rw [hinv.1]; exact hlt)
      · rw [getD_set_ne]
        · exact fill_at l hl k (by omega) i (by omega) h0
        · have r1 := rk_lt l hl i _ (by omega) h0 rfl
          have r2 := rk_lt l hl k _ (by omega) hk0 rfl
          have hcl := counts_length l
          have r2' : (Gz.counts (l.take k)).getD (l.getD k 0) 0 = rk l k (l.getD k 0) := rfl
          rw [r2']
          rcases Nat.lt_trichotomy (l.getD k 0) (l.getD i 0) with h | h | h
          · have h1 := sum_take_mono (Gz.counts l) (l.getD k 0 + 1) (l.getD i 0) h
            rw [sum_take_succ _ _ (by omega)] at h1
            omega
          · have h1 := rk_succ l hl i (l.getD i 0) (by omega) h0
            rw [if_pos rfl] at h1
            have h2 := rk_mono l hl (l.getD i 0) (i + 1) k (by omega) (by omega)
            rw [h]
            omega
          · have h1 := sum_take_mono (Gz.counts l) (l.getD i 0 + 1) (l.getD k 0) h
            rw [sum_take_succ _ _ (by omega)] at h1
            omega
    · simp only [if_neg hk0]
      have e : i ≠ k := fun e => hk0 (e ▸ h0)
      exact fill_at l hl k (by omega) i (by omega) h0

/-- A symbol of the code t is the one that is counted. -/
theorem code_hit (l : List Nat) (hl : Lens l) (i n t : Nat) (hi : i < l.length) (h0 : 0 < n) (e : l.getD i 0 = n) (ec : (codes l).getD i 0 = t) :
    2 * fst (Gz.counts l) n ≤ t ∧ t < 2 * fst (Gz.counts l) n + (Gz.counts l).getD n 0 ∧ (Gz.makeCode l).symbols.getD (((Gz.counts l).take n).sum + t - 2 * fst (Gz.counts l) n) 0 = i := by
  rw [codes_get l i hi, if_pos (by omega), e] at ec
  have h1 := rk_lt l hl i n hi h0 e
  refine ⟨by omega, by omega, ?_⟩
  have h2 := fill_at l hl l.length (Nat.le_refl _) i hi (by omega)
  rw [fillTo_end, e] at h2
  rw [show ((Gz.counts l).take n).sum + t - 2 * fst (Gz.counts l) n = ((Gz.counts l).take n).sum + rk l i n by omega]
  exact h2
/-- No symbol of the code t: none is counted. -/
theorem code_miss (l : List Nat) (hl : Lens l) (n t : Nat) (h0 : 0 < n) (hno : ∀ i, i < l.length → l.getD i 0 = n → (codes l).getD i 0 ≠ t) (hf : 2 * fst (Gz.counts l) n ≤ t) :
    ¬ t < 2 * fst (Gz.counts l) n + (Gz.counts l).getD n 0 := by
  intro h
  obtain ⟨i, h1, h2, h3⟩ := rk_ex l hl n (t - 2 * fst (Gz.counts l) n) h0 l.length (Nat.le_refl _) (by rw [rk_all]; omega)
  apply hno i h1 h2
  rw [codes_get l i h1, if_pos (by omega), h2, h3]
  omega

theorem max_ge (l : List Nat) : ∀ k, k ≤ l.length → ∀ i, i < k → l.getD i 0 ≤ (l.take k).foldl max 0
  | 0, _, i, hi => by omega
  | k + 1, hk, i, hi => by
    rw [max_snoc l k (by omega)]
    by_cases e : i = k
    · subst e; exact Nat.le_max_right _ _
    · exact Nat.le_trans (max_ge l k (by omega) i (by omega)) (Nat.le_max_left _ _)
theorem longest_ge (l : List Nat) (i : Nat) (h : i < l.length) : l.getD i 0 ≤ (Gz.makeCode l).longest := by
  have := max_ge l l.length (Nat.le_refl _) i h
  rw [List.take_length] at this
  exact this
theorem max_le (l : List Nat) (n : Nat) : ∀ k, k ≤ l.length → (∀ i, i < k → l.getD i 0 ≤ n) → (l.take k).foldl max 0 ≤ n
  | 0, _, _ => by simp
  | k + 1, hk, h => by
    rw [max_snoc l k (by omega)]
    exact Nat.max_le.2 ⟨max_le l n k (by omega) (fun i hi => h i (by omega)), h k (by omega)⟩
theorem longest_le (l : List Nat) (n : Nat) (h : ∀ i, i < l.length → l.getD i 0 ≤ n) : (Gz.makeCode l).longest ≤ n := by
  have := max_le l n l.length (Nat.le_refl _) h
  rw [List.take_length] at this
  exact this

theorem makeCode_longest (l : List Nat) (hl : Lens l) : (Gz.makeCode l).longest ≤ 15 := longest_le l 15 hl

/-- Lengths of which none is there. -/
theorem shareOf_pos (n : Nat) (h : 0 < n) (h15 : n ≤ 15) : 0 < shareOf n := by
  unfold shareOf
  rw [if_pos h]
  have : 2 ^ n ≤ 2 ^ 15 := Nat.pow_le_pow_right (by decide) h15
  exact Nat.div_pos (by omega) (Nat.pow_pos (by decide))
theorem share_none (l : List Nat) (hl : Lens l) : ∀ k, k ≤ l.length → (Gz.share (l.take k) = 0 ↔ ∀ i, i < k → l.getD i 0 = 0)
  | 0, _ => by simp [Gz.share]
  | k + 1, hk => by
    rw [share_take l k (by omega)]
    have ih := share_none l hl k (by omega)
    have h15 := hl k (by omega)
    constructor
    · intro h i hi
      by_cases e : i = k
      · subst e
        rcases Nat.eq_zero_or_pos (l.getD i 0) with h0 | h0
        · exact h0
        · have := shareOf_pos _ h0 h15; omega
      · exact ih.1 (by omega) i (by omega)
    · intro h
      rw [ih.2 (fun i hi => h i (by omega)), h k (by omega)]
      rfl
theorem longest_none (l : List Nat) (hl : Lens l) : Gz.share l = 0 ↔ (Gz.makeCode l).longest = 0 := by
  have h := share_none l hl l.length (Nat.le_refl _)
  rw [List.take_length] at h
  rw [h]
  constructor
  · intro h
    have := longest_le l 0 (fun i hi => by rw [h i hi]; exact Nat.le_refl _)
    omega
  · intro h i hi
    have := longest_ge l i hi
    omega
end Go.Proofs.YtjjjlilflbddoaaDoor
/-
  A code's bits are read as its symbol. Nothing of the dump is imported.
-/
namespace Go.Proofs.YtjjjlilflbddoaaDoor

theorem fst_succ (c : List Nat) (n : Nat) : fst c (n + 1) = 2 * fst c n + c.getD n 0 := rfl
/-- The code's first m bits are beyond all codes of m bits, where it has more. -/
theorem prefix_ge (c : List Nat) (n t : Nat) (h : 2 * fst c n ≤ t) : ∀ k, k < n → fst c (n - k) ≤ t / 2 ^ (k + 1)
  | 0, _ => by
    rw [Nat.sub_zero, Nat.pow_one]
    omega
  | k + 1, hk => by
    have ih := prefix_ge c n t h k (by omega)
    rw [Nat.pow_succ, ← Nat.div_div_eq_div_mul]
    have e : n - k = (n - (k + 1)) + 1 := by omega
    rw [e, fst_succ] at ih
    omega
/-- At each length short of n nothing is found. -/
theorem code_short (l : List Nat) (n t m : Nat) (h : 2 * fst (Gz.counts l) n ≤ t) (hm : m < n) : ¬ t / 2 ^ (n - m) < 2 * fst (Gz.counts l) m + (Gz.counts l).getD m 0 := by
  have := prefix_ge (Gz.counts l) n t h (n - m - 1) (by omega)
  rw [show n - (n - m - 1) = m + 1 by omega, show n - m - 1 + 1 = n - m by omega, fst_succ] at this
  omega
theorem half_bit (t k : Nat) : 2 * (t / 2 ^ (k + 1)) + t / 2 ^ k % 2 = t / 2 ^ k := by
  rw [Nat.pow_succ, ← Nat.div_div_eq_div_mul]
  omega
theorem symGo_word (d : List UInt8) (l : List Nat) (hl : Lens l) (i n t p : Nat) (hi : i < l.length) (h0 : 0 < n) (e : l.getD i 0 = n) (ec : (codes l).getD i 0 = t) (hbits : ∀ k, k < n → Gz.bitv d (p + k) = t / 2 ^ (n - 1 - k) % 2) (hp : p + n ≤ 8 * d.length) :
    ∀ j m, m + j = n → 1 ≤ m → ∀ f, j < f → Gz.symGo d (Gz.makeCode l) f m (t / 2 ^ (n - m + 1)) (fst (Gz.counts l) m) (((Gz.counts l).take m).sum) (p + (m - 1)) = .ok (i, p + n) := by
  obtain ⟨c1, c2, c3⟩ := code_hit l hl i n t hi h0 e ec
  have h15 : n ≤ 15 := by rw [← e]; exact hl i hi
  have hcl := counts_length l
  have hco : (Gz.makeCode l).count = Gz.counts l := rfl
  intro j
  induction j with
  | zero =>
    intro m hm h1 f hf
    have hm' : m = n := by omega
    subst hm'
    obtain ⟨f, rfl⟩ : ∃ f', f = f' + 1 := ⟨f - 1, by omega⟩
    have hb := hbits (m - 1) (by omega)
    rw [show m - 1 - (m - 1) = 0 by omega] at hb
    rw [Gz.symGo, if_pos (by omega), hb, hco, show m - m + 1 = 0 + 1 by omega, half_bit, Nat.pow_zero, Nat.div_one, if_pos c2]
    show Except.ok _ = _
    rw [c3, show p + (m - 1) + 1 = p + m by omega]
  | succ j ih =>
    intro m hm h1 f hf
    obtain ⟨f, rfl⟩ : ∃ f', f = f' + 1 := ⟨f - 1, by omega⟩
    have hb := hbits (m - 1) (by omega)
    rw [show n - 1 - (m - 1) = n - m by omega] at hb
    have hs := code_short l n t m c1 (by omega)
    rw [Gz.symGo, if_pos (by omega), hb, hco, half_bit, if_neg hs]
    have := ih (m + 1) (by omega) (by omega) f (by omega)
    rw [show n - (m + 1) + 1 = n - m by omega, fst_succ, sum_take_succ _ _ (by omega), show p + (m + 1 - 1) = p + (m - 1) + 1 by omega] at this
    exact this
/-- A symbol's code is read as the symbol. -/
theorem sym_word (d : List UInt8) (l : List Nat) (hl : Lens l) (i n t p : Nat) (hi : i < l.length) (h0 : 0 < n) (e : l.getD i 0 = n) (ec : (codes l).getD i 0 = t) (ht : t < 2 ^ n) (hbits : ∀ k, k < n → Gz.bitv d (p + k) = t / 2 ^ (n - 1 - k) % 2) (hp : p + n ≤ 8 * d.length) :
    Gz.sym d (Gz.makeCode l) p = .ok (i, p + n) := by
  have hlo := longest_ge l i hi
  have h := symGo_word d l hl i n t p hi h0 e ec hbits hp (n - 1) 1 (by omega) (Nat.le_refl _) (Gz.makeCode l).longest (by omega)
  have e1 : fst (Gz.counts l) 1 = 0 := by rw [fst_succ, counts_nil]; rfl
  have e2 : ((Gz.counts l).take 1).sum = 0 := by rw [sum_take_succ _ 0 (by rw [counts_length]; omega), counts_nil]; rfl
  rw [e1, e2, show n - 1 + 1 = n by omega, Nat.div_eq_of_lt ht] at h
  exact h
end Go.Proofs.YtjjjlilflbddoaaDoor
/-
  The codes of all symbols, one behind the other. Nothing of the dump is imported.
-/
namespace Go.Proofs.YtjjjlilflbddoaaDoor

theorem find_len (c : List Nat) (j : Nat) : ∀ k, j < (c.take k).sum → ∃ n, n < k ∧ (c.take n).sum ≤ j ∧ j < (c.take (n + 1)).sum
  | 0, h => by simp at h
  | k + 1, h => by
    by_cases h1 : j < (c.take k).sum
    · obtain ⟨n, h2, h3⟩ := find_len c j k h1
      exact ⟨n, by omega, h3⟩
    · exact ⟨k, by omega, by omega, h⟩
theorem fst_skip (c : List Nat) (N : Nat) : ∀ k, (∀ m, N ≤ m → m < N + k → c.getD m 0 = 0) → fst c (N + k) = fst c N * 2 ^ k
  | 0, _ => by simp
  | k + 1, h => by
    rw [← Nat.add_assoc, fst_succ, fst_skip c N k (fun m h1 h2 => h m h1 (by omega)), h (N + k) (by omega) (by omega), Nat.pow_succ, Nat.mul_comm (2 ^ k) 2, Nat.mul_left_comm]
    omega
theorem pfst_le (c : List Nat) (hc : ∀ n, c.getD n 0 ≤ 400) : ∀ n, fst c n + 400 ≤ 400 * 2 ^ n
  | 0 => by simp [fst]
  | n + 1 => by
    have h1 := pfst_le c hc n
    have h2 := hc n
    have h3 : 2 ^ (n + 1) = 2 * 2 ^ n := by rw [Nat.pow_succ]; omega
    simp only [fst]
    omega

theorem pcounts_le (l : List Nat) (hl : Lens l) (hn : l.length ≤ 400) (n : Nat) : (Gz.counts l).getD n 0 ≤ 400 := by
  have h1 := counts_sum l hl l.length (Nat.le_refl _)
  rw [List.take_length] at h1
  have h2 := getD_le_sum (Gz.counts l) n
  omega
theorem pfst_max (l : List Nat) (hl : Lens l) (hn : l.length ≤ 400) (n : Nat) (h : n ≤ 16) : fst (Gz.counts l) n ≤ 26214400 := by
  have h1 := pfst_le _ (pcounts_le l hl hn) n
  have h2 : 2 ^ n ≤ 2 ^ 16 := Nat.pow_le_pow_right (by decide) h
  omega

theorem codes_max (l : List Nat) (hl : Lens l) (hn : l.length ≤ 400) (s : Nat) (hs : s < l.length) : (codes l).getD s 0 ≤ 52429200 := by
  rw [codes_get l s hs]
  split
  · rename_i h0
    have h15 := hl s hs
    have h1 := pfst_max l hl hn (l.getD s 0) (by omega)
    have h2 := rk_lt l hl s _ hs h0 rfl
    have h3 := pcounts_le l hl hn (l.getD s 0)
    omega
  · omega
/-- Where a symbol stands among those that have a code. -/
def idx (l : List Nat) (s : Nat) : Nat := ((Gz.counts l).take (l.getD s 0)).sum + rk l s (l.getD s 0)
theorem idx_sym (l : List Nat) (hl : Lens l) (s : Nat) (hs : s < l.length) (h0 : 0 < l.getD s 0) : (Gz.makeCode l).symbols.getD (idx l s) 0 = s := by
  have := fill_at l hl l.length (Nat.le_refl _) s hs h0
  rw [fillTo_end] at this
  exact this
theorem idx_lt (l : List Nat) (hl : Lens l) (s : Nat) (hs : s < l.length) (h0 : 0 < l.getD s 0) : idx l s < (Gz.counts l).sum := by
  have h1 := rk_lt l hl s _ hs h0 rfl
  have h15 := hl s hs
  have hcl := counts_length l
  have h2 := sum_take_le (Gz.counts l) (l.getD s 0 + 1)
  rw [sum_take_succ _ _ (by omega)] at h2
  unfold idx
  omega
/-- Where the codes stand ahead of the j-th one: the number to come, and the length of the last one. -/
structure Next (l : List Nat) (j b N : Nat) : Prop where
  n15 : N ≤ 15
  lo : ((Gz.counts l).take N).sum ≤ j
  hi : j ≤ ((Gz.counts l).take (N + 1)).sum
  val : b = 2 * fst (Gz.counts l) N + (j - ((Gz.counts l).take N).sum)
theorem next_start (l : List Nat) : Next l 0 0 0 := ⟨Nat.zero_le _, by simp, Nat.zero_le _, by simp [fst]⟩
theorem next_step {l : List Nat} (hl : Lens l) {j b N s : Nat} (h : Next l j b N) (hj : j < (Gz.counts l).sum) (hs : (Gz.makeCode l).symbols.getD j 0 = s) :
    s < l.length ∧ 0 < l.getD s 0 ∧ l.getD s 0 ≤ 15 ∧ N ≤ l.getD s 0 ∧ idx l s = j ∧ b * 2 ^ (l.getD s 0 - N) = (codes l).getD s 0 ∧ Next l (j + 1) (b * 2 ^ (l.getD s 0 - N) + 1) (l.getD s 0) := by
  have hcl := counts_length l
  have htot : (Gz.counts l).take 16 = Gz.counts l := List.take_of_length_le (by omega)
  obtain ⟨n, hn16, hlo, hhi⟩ := find_len (Gz.counts l) j 16 (by rw [htot]; exact hj)
  have hst : ((Gz.counts l).take (n + 1)).sum = ((Gz.counts l).take n).sum + (Gz.counts l).getD n 0 := sum_take_succ _ _ (by omega)
  have hn0 : 0 < n := by
    rcases Nat.eq_zero_or_pos n with e | e
    · subst e
      rw [hst, counts_nil] at hhi
      simp at hhi
    · exact e
  obtain ⟨i, hi, hin, hri⟩ := rk_ex l hl n (j - ((Gz.counts l).take n).sum) hn0 l.length (Nat.le_refl _) (by rw [rk_all]; omega)
  have hidx : idx l i = j := by unfold idx; rw [hin, hri]; omega
  have hsi : s = i := by rw [← hs, ← hidx]; exact idx_sym l hl i hi (by omega)
  subst hsi
  rw [hin]
  have hN : N ≤ n := by
    rcases Nat.lt_or_ge n N with h1 | h1
    · have := sum_take_mono (Gz.counts l) (n + 1) N h1
      have := h.lo
      omega
    · exact h1
  have hcode : b * 2 ^ (n - N) = (codes l).getD s 0 := by
    rw [codes_get l s hi, hin, if_pos hn0, hri, h.val]
    by_cases e : N = n
    · subst e
      rw [Nat.sub_self, Nat.pow_zero, Nat.mul_one]
    · have h1 := sum_take_mono (Gz.counts l) (N + 1) n (by omega)
      have h2 := h.hi
      have hN1 : ((Gz.counts l).take (N + 1)).sum = ((Gz.counts l).take N).sum + (Gz.counts l).getD N 0 := sum_take_succ _ _ (by omega)
      have hz : ∀ m, N + 1 ≤ m → m < (N + 1) + (n - (N + 1)) → (Gz.counts l).getD m 0 = 0 := by
        intro m h3 h4
        have h5 := sum_take_mono (Gz.counts l) (N + 1) m h3
        have h6 := sum_take_mono (Gz.counts l) (m + 1) n (by omega)
        rw [sum_take_succ _ m (by omega)] at h6
        omega
      have hf := fst_skip (Gz.counts l) (N + 1) (n - (N + 1)) hz
      rw [show N + 1 + (n - (N + 1)) = n by omega, fst_succ] at hf
      rw [show j - ((Gz.counts l).take n).sum = 0 by omega, hf, show j - ((Gz.counts l).take N).sum = (Gz.counts l).getD N 0 by omega, show n - N = (n - (N + 1)) + 1 by omega, Nat.pow_succ, Nat.mul_comm (2 ^ (n - (N + 1))) 2, Nat.mul_left_comm]
      omega
  refine ⟨hi, hn0, by omega, hN, hidx, hcode, ⟨by omega, by omega, by omega, ?_⟩⟩
  rw [hcode, codes_get l s hi, hin, if_pos hn0, hri]
  omega
/-- The words so far. -/
def wordsTo (l : List Nat) (j : Nat) : List (Nat × Nat) := (List.range l.length).map fun s => if 0 < l.getD s 0 ∧ idx l s < j then ((codes l).getD s 0, l.getD s 0) else (0, 0)
def words (l : List Nat) : List (Nat × Nat) := (List.range l.length).map fun s => if 0 < l.getD s 0 then ((codes l).getD s 0, l.getD s 0) else (0, 0)
theorem words_len (l : List Nat) (j : Nat) : (wordsTo l j).length = l.length := by simp [wordsTo]
theorem words_zero (l : List Nat) : wordsTo l 0 = List.replicate l.length (0, 0) := by
  apply List.ext_getElem?
  intro i
  rw [wordsTo, List.getElem?_map, List.getElem?_replicate]
  by_cases h : i < l.length
  · rw [List.getElem?_range h, if_pos h]
    simp
  · rw [if_neg h, List.getElem?_eq_none (by simp; omega)]; rfl
theorem words_set {l : List Nat} (hl : Lens l) {j s : Nat} (hs : s < l.length) (h0 : 0 < l.getD s 0) (hj : idx l s = j) : (wordsTo l j).set s ((codes l).getD s 0, l.getD s 0) = wordsTo l (j + 1) := by
  apply List.ext_getElem?
  intro i
  rw [List.getElem?_set, words_len]
  by_cases e : s = i
  · subst e
    rw [if_pos rfl, if_pos hs, wordsTo, List.getElem?_map, List.getElem?_range hs]
    simp only [Option.map_some]
    rw [if_pos ⟨h0, by omega⟩]
  · rw [if_neg e, wordsTo, wordsTo, List.getElem?_map, List.getElem?_map]
    by_cases hi : i < l.length
    · rw [List.getElem?_range hi]
      simp only [Option.map_some]
      by_cases h1 : 0 < l.getD i 0
      · have hne : idx l i ≠ j := fun h => e (by rw [← idx_sym l hl s hs h0, ← idx_sym l hl i hi h1, hj, h])
        by_cases h2 : idx l i < j
        · rw [if_pos ⟨h1, h2⟩, if_pos ⟨h1, by omega⟩]
        · rw [if_neg (fun h => h2 h.2), if_neg (fun h => by have := h.2; omega)]
      · rw [if_neg (fun h => h1 h.1), if_neg (fun h => h1 h.1)]
    · rw [List.getElem?_eq_none (by simp; omega)]; rfl
theorem words_all (l : List Nat) (hl : Lens l) : wordsTo l (Gz.counts l).sum = words l := by
  unfold wordsTo words
  apply List.map_congr_left
  intro s hs
  rw [List.mem_range] at hs
  by_cases h : 0 < l.getD s 0
  · rw [if_pos ⟨h, idx_lt l hl s hs h⟩, if_pos h]
  · rw [if_neg (fun hh => h hh.1), if_neg h]
end Go.Proofs.YtjjjlilflbddoaaDoor
/-
  The bits of symbols. Nothing of the dump is imported.
-/
namespace Go.Proofs.YtjjjlilflbddoaaDoor
namespace Pk
/-- The last place up to k whose number is not above n. -/
def downTo (tab : List Nat) (n : Nat) : Nat → Nat
  | 0 => 0
  | k + 1 => if n < tab.getD (k + 1) 0 then downTo tab n k else k + 1
def lenSym (n : Nat) : Nat := 257 + downTo Gz.lenFrom n 28
def farSym (n : Nat) : Nat := downTo Gz.distFrom n 29
theorem down_le (tab : List Nat) (n : Nat) : ∀ k, downTo tab n k ≤ k
  | 0 => Nat.le_refl _
  | k + 1 => by
    have := down_le tab n k
    unfold downTo
    split <;> omega
theorem down_at (tab : List Nat) (n : Nat) (h : tab.getD 0 0 ≤ n) : ∀ k, tab.getD (downTo tab n k) 0 ≤ n
  | 0 => h
  | k + 1 => by
    unfold downTo
    split
    · exact down_at tab n h k
    · omega
/-- The symbol that a token begins with. -/
def symOf (t : Nat × Nat) : Nat := if t.2 = 0 then t.1 else lenSym t.1
def wbits (ws : List (Nat × Nat)) (s : Nat) : List Nat := wordBits (ws.getD s (0, 0)).1 (ws.getD s (0, 0)).2
/-- The bits of a repeat behind its symbol. -/
def farBits (lf : List Nat) (t : Nat × Nat) : List Nat :=
  numBits (t.1 - Gz.lenFrom.getD (lenSym t.1 - 257) 0) (Gz.lenBits (lenSym t.1)) ++ (wbits (words lf) (farSym t.2) ++ numBits (t.2 - Gz.distFrom.getD (farSym t.2) 0) (Gz.distBits (farSym t.2)))
def tokBits (ls lf : List Nat) (t : Nat × Nat) : List Nat := wbits (words ls) (symOf t) ++ (if t.2 = 0 then [] else farBits lf t)
def symsBits (ls lf : List Nat) (ts : List (Nat × Nat)) : List Nat := ts.flatMap (tokBits ls lf) ++ wbits (words ls) 256
theorem words_get (l : List Nat) (s : Nat) : ((words l).getD s (0, 0)).2 ≤ 15 ∨ ¬ Lens l := by
  by_cases hl : Lens l
  · left
    rw [List.getD]
    unfold words
    rw [List.getElem?_map]
    by_cases h : s < l.length
    · rw [List.getElem?_range h]
      simp only [Option.map_some, Option.getD_some]
      split
      · exact hl s h
      · exact Nat.zero_le _
    · rw [List.getElem?_eq_none (by simp; omega)]
      exact Nat.zero_le _
  · exact .inr hl
theorem wbits_len (l : List Nat) (hl : Lens l) (s : Nat) : (wbits (words l) s).length ≤ 15 := by
  unfold wbits
  rw [word_len]
  exact (words_get l s).resolve_right (fun h => h hl)
theorem lenBits_le (s : Nat) (h : s ≤ 285) : Gz.lenBits s ≤ 6 := by unfold Gz.lenBits; split <;> omega
theorem distBits_le (s : Nat) (h : s ≤ 29) : Gz.distBits s ≤ 13 := by unfold Gz.distBits; split <;> omega
theorem lenSym_le (n : Nat) : 257 ≤ lenSym n ∧ lenSym n ≤ 285 := by have := down_le Gz.lenFrom n 28; unfold lenSym; omega
theorem farSym_le (n : Nat) : farSym n ≤ 29 := down_le _ _ _
theorem tokBits_len (ls lf : List Nat) (hs : Lens ls) (hf : Lens lf) (t : Nat × Nat) : (tokBits ls lf t).length ≤ 60 := by
  unfold tokBits farBits
  have h1 := wbits_len ls hs (symOf t)
  have h2 := wbits_len lf hf (farSym t.2)
  have h3 := lenBits_le (lenSym t.1) (lenSym_le t.1).2
  have h4 := distBits_le (farSym t.2) (farSym_le t.2)
  split
  · simp; omega
  · simp only [List.length_append, num_len]; omega
theorem toksBits_len (ls lf : List Nat) (hs : Lens ls) (hf : Lens lf) (ts : List (Nat × Nat)) : (ts.flatMap (tokBits ls lf)).length ≤ 60 * ts.length := by
  induction ts with
  | nil => exact Nat.zero_le _
  | cons a l ih =>
    rw [List.flatMap_cons, List.length_append, List.length_cons]
    have := tokBits_len ls lf hs hf a
    omega

/-! Kind 0. -/
/-- Zeros up to the next byte. -/
def pad8 (bs : List Nat) : List Nat := bs ++ List.replicate (8 * ((bs.length + 7) / 8) - bs.length) 0
theorem pad_len (bs : List Nat) : (pad8 bs).length = 8 * ((bs.length + 7) / 8) := by unfold pad8; simp; omega
theorem getD_zeros (bs : List Nat) (k i : Nat) : (bs ++ List.replicate k 0).getD i 0 = bs.getD i 0 := by
  by_cases h : i < bs.length
  · exact getD_app_left h
  · rw [getD_app_right (by omega), getD_past (a := bs) (by omega), List.getD, List.getElem?_replicate]
    split <;> rfl
theorem valL_zeros (bs : List Nat) (k p : Nat) : ∀ n, valL (bs ++ List.replicate k 0) p n = valL bs p n
  | 0 => rfl
  | n + 1 => by rw [valL, valL, valL_zeros bs k p n, getD_zeros]
theorem bytes_pad (bs : List Nat) : toBytes (pad8 bs) = toBytes bs := by
  unfold toBytes
  rw [pad_len, show (8 * ((bs.length + 7) / 8) + 7) / 8 = (bs.length + 7) / 8 by omega]
  apply List.map_congr_left
  intro i _
  unfold pad8
  rw [valL_zeros]
theorem bits_pad {bs : List Nat} (h : Bits bs) : Bits (pad8 bs) := h.app (fun b hb => by rw [List.eq_of_mem_replicate hb]; decide)
/-- The bits of bytes. -/
def byteBits (d : List UInt8) : List Nat := d.flatMap fun c => numBits c.toNat 8
theorem byte_len (d : List UInt8) : (byteBits d).length = 8 * d.length := by
  induction d with
  | nil => rfl
  | cons c d ih =>
    show (numBits c.toNat 8 ++ byteBits d).length = 8 * (d.length + 1)
    rw [List.length_append, num_len, ih]; omega
theorem byte_snoc (d : List UInt8) (c : UInt8) : byteBits (d ++ [c]) = byteBits d ++ numBits c.toNat 8 := by simp [byteBits]
/-- A block of kind 0 behind its head. -/
def storedBits (bs : List Nat) (d : List UInt8) : List Nat := pad8 bs ++ numBits d.length 16 ++ numBits (65535 - d.length) 16 ++ byteBits d
end Pk
end Go.Proofs.YtjjjlilflbddoaaDoor
/-
  The document's reader as a function. Nothing of the dump is imported.
-/
namespace Go.Proofs.YtjjjlilflbddoaaDoor
namespace Rf

/-- What has been read: st is 0 as long as it goes on; 2: the bits do not suffice; else what was met. -/
structure D where
  pos : Nat
  st : Nat
  out : List UInt8
  keys : List (List Nat)
  kinds : List Nat
  toks : List (Nat × Nat)

def put (lim : Nat) (x : D) (c : UInt8) : D := if lim ≤ x.out.length then { x with st := 8 } else { x with out := x.out ++ [c] }

def copyN (lim far : Nat) : Nat → D → D
  | 0, x => x
  | n + 1, x => if x.st = 0 then copyN lim far n (put lim x (x.out.getD (x.out.length - far) 0)) else x

/-- A length and a distance. -/
def lenDist (d : List UInt8) (fc : Gz.Code) (sy p : Nat) : Gz.Out (Nat × Nat) :=
  (Gz.num d (Gz.lenBits sy) p).bind fun v p1 => (Gz.dist d fc p1).bind fun far p2 => .ok ((Gz.lenFrom.getD (sy - 257) 0 + v, far), p2)

def copied (d : List UInt8) (lim : Nat) (fc : Gz.Code) (sy : Nat) (x : D) : D :=
  if 285 < sy then { x with st := 6 } else
  match lenDist d fc sy x.pos with
  | .error k => { x with st := k }
  | .ok ((n, far), p2) => if x.out.length < far then { x with st := 7, pos := p2 } else copyN lim far n { x with pos := p2, toks := x.toks ++ [(n, far)] }

/-- One symbol; true: the block has ended. -/
def symStep (d : List UInt8) (lim : Nat) (t : Gz.Table) (x : D) : D × Bool :=
  match Gz.sym d t.syms x.pos with
  | .error k => ({ x with st := k }, false)
  | .ok (sy, p1) =>
    if sy = 256 then ({ x with pos := p1 }, true)
    else if sy < 256 then (put lim { x with pos := p1, toks := x.toks ++ [(sy, 0)] } (UInt8.ofNat sy), false)
    else (copied d lim t.dists sy { x with pos := p1 }, false)

def symsN (d : List UInt8) (lim : Nat) (t : Gz.Table) : Nat → D → D
  | 0, x => x
  | n + 1, x => if x.st = 0 then (if (symStep d lim t x).2 then (symStep d lim t x).1 else symsN d lim t n (symStep d lim t x).1) else x
def syms (d : List UInt8) (lim : Nat) (t : Gz.Table) (x : D) : D := symsN d lim t (8 * d.length + 1 - x.pos) x

/-- n bytes of a block of kind 0. -/
def bytesN (d : List UInt8) (lim : Nat) : Nat → D → D
  | 0, x => x
  | n + 1, x => if x.st = 0 then (match Gz.num d 8 x.pos with
    | .error k => { x with st := k }
    | .ok (v, p1) => bytesN d lim n (put lim { x with pos := p1 } (UInt8.ofNat v))) else x

def stored (d : List UInt8) (lim : Nat) (x : D) : D :=
  match (Gz.num d 16 (8 * ((x.pos + 7) / 8))).bind fun n p1 => (Gz.num d 16 p1).bind fun m p2 => .ok ((n, m), p2) with
  | .error k => { x with st := k }
  | .ok ((n, m), p2) => if m + n ≠ 65535 then { x with st := 4, pos := p2 } else bytesN d lim n { x with pos := p2 }

/-- Are these lengths right? -/
def right (a b : List Nat) : Bool := Gz.complete a && (a.getD 256 0 != 0) && (decide (b.sum ≤ 1) || Gz.complete b)

/-- The lengths of a block of kind 2. -/
def lens (d : List UInt8) (p : Nat) : Gz.Out (List Nat × List Nat) :=
  (Gz.num d 5 p).bind fun a p1 => (Gz.num d 5 p1).bind fun b p2 => (Gz.num d 4 p2).bind fun c p3 =>
    if 286 < a + 257 ∨ 30 < b + 1 then .error 5 else
    (Gz.tellGo d (c + 4) 0 (List.replicate 19 0) p3).bind fun f p4 => if Gz.complete f then
      (Gz.told d (Gz.makeCode f) (a + 257 + (b + 1)) p4).bind fun l p5 =>
        if right (l.take (a + 257)) (l.drop (a + 257)) then .ok ((Gz.wide (l.take (a + 257)) 286, Gz.wide (l.drop (a + 257)) 30), p5) else .error 5
      else .error 5

def fixedA : List Nat := (List.range 288).map Gz.fixedLen
def fixedB : List Nat := List.replicate 32 5

/-- One block; true: it was the last one. -/
def block (d : List UInt8) (lim : Nat) (x : D) : D × Bool :=
  match (Gz.num d 1 x.pos).bind fun a p1 => (Gz.num d 2 p1).bind fun k p2 => .ok ((a, k), p2) with
  | .error k => ({ x with st := k }, false)
  | .ok ((a, k), p2) =>
    if k = 3 then ({ x with st := 3, pos := p2 }, false)
    else if k = 0 then (stored d lim { x with pos := p2, kinds := x.kinds ++ [0] }, a == 1)
    else if k = 1 then (syms d lim ⟨Gz.makeCode fixedA, Gz.makeCode fixedB⟩ { x with pos := p2, kinds := x.kinds ++ [1] }, a == 1)
    else match lens d p2 with
      | .error k => ({ x with st := k, kinds := x.kinds ++ [2] }, a == 1)
      | .ok ((l, f), p3) => (syms d lim ⟨Gz.makeCode l, Gz.makeCode f⟩ { x with pos := p3, kinds := x.kinds ++ [2], keys := x.keys ++ [l ++ f] }, a == 1)

/-- All blocks; the answer: what was read, and whether the last block has ended. -/
def readN (d : List UInt8) (lim : Nat) : Nat → D → D × Bool
  | 0, x => (x, false)
  | n + 1, x => if (block d lim x).1.st = 0 then (if (block d lim x).2 then ((block d lim x).1, true) else readN d lim n (block d lim x).1) else ((block d lim x).1, false)
def start : D := { pos := 0, st := 0, out := [], keys := [], kinds := [], toks := [] }
def read (d : List UInt8) (lim : Nat) : D × Bool := readN d lim (8 * d.length + 1) start

end Rf
end Go.Proofs.YtjjjlilflbddoaaDoor
/-
  What was written is read: numbers and words. Nothing of the dump is imported.
-/
namespace Go.Proofs.YtjjjlilflbddoaaDoor
namespace Pk

/-- From bit p on stand these bits. -/
def Here (bs : List Nat) (p : Nat) (xs : List Nat) : Prop := p + xs.length ≤ bs.length ∧ ∀ k, k < xs.length → bs.getD (p + k) 0 = xs.getD k 0
theorem here_all (bs : List Nat) : Here bs 0 bs := ⟨by omega, fun k _ => by rw [Nat.zero_add]⟩
theorem Here.left {bs xs ys : List Nat} {p : Nat} (h : Here bs p (xs ++ ys)) : Here bs p xs := by
  have h1 := h.1
  rw [List.length_append] at h1
  refine ⟨by omega, fun k hk => ?_⟩
  rw [h.2 k (by rw [List.length_append]; omega), getD_app_left hk]
theorem Here.right {bs xs ys : List Nat} {p : Nat} (h : Here bs p (xs ++ ys)) : Here bs (p + xs.length) ys := by
  have h1 := h.1
  rw [List.length_append] at h1
  refine ⟨by omega, fun k hk => ?_⟩
  have := h.2 (xs.length + k) (by rw [List.length_append]; omega)
  rw [getD_app_right (by omega), show xs.length + k - xs.length = k by omega, ← Nat.add_assoc] at this
  exact this
theorem num_at (v n k : Nat) (h : k < n) : (numBits v n).getD k 0 = v / 2 ^ k % 2 := by
  rw [List.getD, numBits, List.getElem?_map, List.getElem?_range h]; rfl
theorem word_at (v n k : Nat) (h : k < n) : (wordBits v n).getD k 0 = v / 2 ^ (n - 1 - k) % 2 := by
  rw [List.getD, wordBits, List.getElem?_map, List.getElem?_range h]; rfl
theorem val_back (d : List UInt8) (p v : Nat) : ∀ n, (∀ k, k < n → Gz.bitv d (p + k) = v / 2 ^ k % 2) → Gz.val d p n = v % 2 ^ n
  | 0, _ => by rw [Gz.val, Nat.pow_zero, Nat.mod_one]
  | n + 1, h => by
    rw [Gz.val, val_back d p v n (fun k hk => h k (by omega)), h n (by omega), Nat.mod_pow_succ, Nat.mul_comm]
theorem bytes_room (bs : List Nat) : bs.length ≤ 8 * (toBytes bs).length := by rw [bytes_len]; omega
theorem num_back {bs : List Nat} (hb : Bits bs) {p v n : Nat} (h : Here bs p (numBits v n)) (hv : v < 2 ^ n) : Gz.num (toBytes bs) n p = .ok (v, p + n) := by
  have h1 := h.1
  rw [num_len] at h1
  have h2 := bytes_room bs
  unfold Gz.num
  rw [if_pos (by omega), val_back _ p v n (fun k hk => by rw [bitv_bytes hb, h.2 k (by rw [num_len]; exact hk), num_at v n k hk]), Nat.mod_eq_of_lt hv]

/-! The codes fit into their lengths. -/
theorem fst_ge (c : List Nat) (n : Nat) : ∀ k, fst c n * 2 ^ k ≤ fst c (n + k)
  | 0 => by rw [Nat.pow_zero, Nat.mul_one, Nat.add_zero]; exact Nat.le_refl _
  | k + 1 => by
    have := fst_ge c n k
    rw [← Nat.add_assoc, fst_succ, Nat.pow_succ, ← Nat.mul_assoc]
    omega
theorem fst_set (c : List Nat) (n : Nat) (hn : n < c.length) : ∀ k, fst (c.set n (c.getD n 0 + 1)) k = fst c k + (if n < k then 2 ^ (k - 1 - n) else 0)
  | 0 => by simp [fst]
  | k + 1 => by
    rw [fst_succ, fst_succ, fst_set c n hn k]
    by_cases h : n < k
    · rw [if_pos h, if_pos (by omega), getD_set_ne _ _ _ _ (by omega), show k + 1 - 1 - n = (k - 1 - n) + 1 by omega, Nat.pow_succ]
      omega
    · rw [if_neg h]
      by_cases e : n = k
      · subst e
        rw [getD_set_same _ _ _ hn, if_pos (by omega), show n + 1 - 1 - n = 0 by omega, Nat.pow_zero]
        omega
      · rw [if_neg (by omega), getD_set_ne _ _ _ _ e]
        omega
theorem share_fst (l : List Nat) (hl : Lens l) : ∀ k, k ≤ l.length → fst (Gz.counts (l.take k)) 16 = Gz.share (l.take k)
  | 0, _ => by rw [List.take_zero]; rfl
  | k + 1, h => by
    have hk := hl k (by omega)
    rw [counts_snoc l k (by omega), share_take l k (by omega), ← share_fst l hl k (by omega)]
    by_cases h0 : 0 < l.getD k 0
    · rw [if_pos h0, fst_set _ _ (by rw [counts_length]; omega), if_pos (by omega)]
      congr 1
      unfold shareOf
      rw [if_pos h0, show (32768 : Nat) = 2 ^ 15 from rfl, Nat.pow_div (by omega) (by decide)]
    · rw [if_neg h0]
      have : shareOf (l.getD k 0) = 0 := by unfold shareOf; rw [if_neg h0]
      omega
theorem code_fits (l : List Nat) (hl : Lens l) (hs : Gz.share l ≤ 32768) (s : Nat) (h : s < l.length) (h0 : 0 < l.getD s 0) : (codes l).getD s 0 < 2 ^ (l.getD s 0) := by
  have h15 := hl s h
  have h1 := share_fst l hl l.length (Nat.le_refl _)
  rw [List.take_length] at h1
  have h2 := rk_lt l hl s _ h h0 rfl
  have h3 := fst_ge (Gz.counts l) (l.getD s 0 + 1) (15 - l.getD s 0)
  rw [show l.getD s 0 + 1 + (15 - l.getD s 0) = 16 by omega, h1, fst_succ] at h3
  rw [codes_get l s h, if_pos h0]
  generalize l.getD s 0 = n at *
  have h4 : (2 * fst (Gz.counts l) n + (Gz.counts l).getD n 0) * 2 ^ (15 - n) ≤ 2 ^ n * 2 ^ (15 - n) := by
    rw [← Nat.pow_add, show n + (15 - n) = 15 by omega]
    exact Nat.le_trans h3 hs
  have h5 := Nat.le_of_mul_le_mul_right h4 (Nat.pow_pos (by decide))
  omega
theorem words_at (l : List Nat) (s : Nat) (h : s < l.length) (h0 : 0 < l.getD s 0) : (words l).getD s (0, 0) = ((codes l).getD s 0, l.getD s 0) := by
  rw [List.getD, words, List.getElem?_map, List.getElem?_range h]
  simp only [Option.map_some, Option.getD_some]
  rw [if_pos h0]
/-- A symbol's word is read as the symbol. -/
theorem sym_back {bs : List Nat} (hb : Bits bs) {l : List Nat} (hl : Lens l) (hs : Gz.share l ≤ 32768) {s p : Nat} (h : s < l.length) (h0 : 0 < l.getD s 0) (hh : Here bs p (wordBits ((words l).getD s (0, 0)).1 ((words l).getD s (0, 0)).2)) : Gz.sym (toBytes bs) (Gz.makeCode l) p = .ok (s, p + l.getD s 0) := by
  rw [words_at l s h h0] at hh
  have h1 := hh.1
  rw [word_len] at h1
  have h2 := bytes_room bs
  refine sym_word _ l hl s _ _ p h h0 rfl rfl (code_fits l hl hs s h h0) (fun k hk => ?_) (by omega)
  rw [bitv_bytes hb, hh.2 k (by rw [word_len]; exact hk), word_at _ _ k hk]
end Pk
end Go.Proofs.YtjjjlilflbddoaaDoor
