import Derived.Test.YtjjjlilflbddoaaDoorGPure
/-
  Bits behind one another, and the bytes they make. Nothing of the dump is imported.
-/
namespace Go.Proofs.YtjjjlilflbddoaaDoor
namespace Pk

def Bits (bs : List Nat) : Prop := ∀ b ∈ bs, b < 2
/-- The number of n bits from p on, the lowest first; there are zeros behind the last. -/
def valL (bs : List Nat) (p : Nat) : Nat → Nat
  | 0 => 0
  | n + 1 => valL bs p n + bs.getD (p + n) 0 * 2 ^ n
def toBytes (bs : List Nat) : List UInt8 := (List.range ((bs.length + 7) / 8)).map fun i => UInt8.ofNat (valL bs (8 * i) 8)
def numBits (v n : Nat) : List Nat := (List.range n).map fun i => v / 2 ^ i % 2
def wordBits (v n : Nat) : List Nat := (List.range n).map fun i => v / 2 ^ (n - 1 - i) % 2

theorem Bits.getD {bs : List Nat} (h : Bits bs) (k : Nat) : bs.getD k 0 < 2 := by
  rw [List.getD]
  cases e : bs[k]? with
  | none => exact Nat.zero_lt_two
  | some b => exact h b (List.mem_of_getElem? e)
theorem bits_nil : Bits [] := fun _ h => by cases h
theorem Bits.app {a b : List Nat} (ha : Bits a) (hb : Bits b) : Bits (a ++ b) := fun x hx => (List.mem_append.1 hx).elim (ha x) (hb x)
theorem bits_one {b : Nat} (h : b < 2) : Bits [b] := fun x hx => by rw [List.mem_singleton.1 hx]; exact h
theorem bits_num (v n : Nat) : Bits (numBits v n) := fun x hx => by
  obtain ⟨i, _, rfl⟩ := List.mem_map.1 hx
  exact Nat.mod_lt _ (by decide)
theorem bits_word (v n : Nat) : Bits (wordBits v n) := fun x hx => by
  obtain ⟨i, _, rfl⟩ := List.mem_map.1 hx
  exact Nat.mod_lt _ (by decide)
theorem num_len (v n : Nat) : (numBits v n).length = n := by simp [numBits]
theorem word_len (v n : Nat) : (wordBits v n).length = n := by simp [wordBits]
theorem num_succ (v n : Nat) : numBits v (n + 1) = numBits v n ++ [v / 2 ^ n % 2] := by simp [numBits, List.range_succ]
theorem valL_lt {bs : List Nat} (h : Bits bs) (p : Nat) : ∀ n, valL bs p n < 2 ^ n
  | 0 => by simp [valL]
  | n + 1 => by
    have h1 := valL_lt h p n
    have h2 := h.getD (p + n)
    have h3 : bs.getD (p + n) 0 * 2 ^ n ≤ 1 * 2 ^ n := Nat.mul_le_mul_right _ (by omega)
    rw [valL, Nat.pow_succ]
    omega
theorem getD_app_left {a b : List Nat} {k : Nat} (h : k < a.length) : (a ++ b).getD k 0 = a.getD k 0 := by rw [List.getD, List.getD, List.getElem?_append_left h]
theorem getD_app_right {a b : List Nat} {k : Nat} (h : a.length ≤ k) : (a ++ b).getD k 0 = b.getD (k - a.length) 0 := by rw [List.getD, List.getD, List.getElem?_append_right h]
theorem getD_past {a : List Nat} {k : Nat} (h : a.length ≤ k) : a.getD k 0 = 0 := by rw [List.getD, List.getElem?_eq_none h]; rfl
/-- One bit more. -/
theorem valL_snoc (bs : List Nat) (b p : Nat) : ∀ n, valL (bs ++ [b]) p n = valL bs p n + (if p ≤ bs.length ∧ bs.length < p + n then b * 2 ^ (bs.length - p) else 0)
  | 0 => by rw [valL, valL, if_neg (by omega)]
  | n + 1 => by
    rw [valL, valL, valL_snoc bs b p n]
    by_cases h1 : p + n < bs.length
    · rw [getD_app_left h1, if_neg (by omega), if_neg (by omega)]; omega
    · by_cases h2 : p + n = bs.length
      · rw [getD_app_right (by omega), getD_past (a := bs) (by omega), if_neg (by omega), if_pos (by omega), show p + n - bs.length = 0 by omega, show bs.length - p = n by omega]
        show _ + 0 + b * 2 ^ n = _ + 0 * 2 ^ n + b * 2 ^ n
        omega
      · rw [getD_app_right (by omega), getD_past (a := bs) (by omega), getD_past (a := [b]) (by show 1 ≤ _; omega)]
        by_cases h3 : p ≤ bs.length
        · rw [if_pos (by omega), if_pos (by omega)]; omega
        · rw [if_neg (by omega), if_neg (by omega)]; omega
theorem bytes_len (bs : List Nat) : (toBytes bs).length = (bs.length + 7) / 8 := by simp [toBytes]
theorem bytes_at (bs : List Nat) (i : Nat) (h : i < (bs.length + 7) / 8) : (toBytes bs).getD i 0 = UInt8.ofNat (valL bs (8 * i) 8) := by
  rw [List.getD, toBytes, List.getElem?_map, List.getElem?_range h]; rfl
theorem valL_past (bs : List Nat) (p : Nat) (h : bs.length ≤ p) : ∀ n, valL bs p n = 0
  | 0 => rfl
  | n + 1 => by rw [valL, valL_past bs p h n, getD_past (by omega)]; omega
/-- A byte more for the bit behind a full one. -/
theorem bytes_new (bs : List Nat) (b : Nat) (h : bs.length % 8 = 0) : toBytes (bs ++ [b]) = toBytes bs ++ [UInt8.ofNat b] := by
  apply List.ext_getElem?
  intro i
  have hl : (bs ++ [b]).length = bs.length + 1 := by simp
  by_cases h1 : i < (bs.length + 7) / 8
  · rw [List.getElem?_append_left (by rw [bytes_len]; exact h1), toBytes, toBytes, List.getElem?_map, List.getElem?_map, List.getElem?_range h1, List.getElem?_range (by rw [hl]; omega)]
    simp only [Option.map_some]
    rw [valL_snoc, if_neg (by omega)]
    rfl
  · by_cases h2 : i = (bs.length + 7) / 8
    · rw [List.getElem?_append_right (by rw [bytes_len]; omega), bytes_len, toBytes, List.getElem?_map, List.getElem?_range (by rw [hl]; omega)]
      simp only [Option.map_some]
      rw [valL_snoc, if_pos (by omega), valL_past bs _ (by omega), show bs.length - 8 * i = 0 by omega, show i - (bs.length + 7) / 8 = 0 by omega]
      simp
    · rw [List.getElem?_eq_none (by rw [bytes_len, hl]; omega), List.getElem?_eq_none (by rw [List.length_append, bytes_len]; simp; omega)]
/-- A bit more in the last byte. -/
theorem bytes_in (bs : List Nat) (b : Nat) (h : bs.length % 8 ≠ 0) : toBytes (bs ++ [b]) = (toBytes bs).set (bs.length / 8) (UInt8.ofNat (valL bs (8 * (bs.length / 8)) 8 + b * 2 ^ (bs.length % 8))) := by
  have hl : (bs ++ [b]).length = bs.length + 1 := by simp
  apply List.ext_getElem?
  intro i
  rw [List.getElem?_set, bytes_len]
  by_cases h1 : bs.length / 8 = i
  · rw [if_pos h1, if_pos (by omega), toBytes, List.getElem?_map, List.getElem?_range (by rw [hl]; omega)]
    simp only [Option.map_some]
    rw [valL_snoc, if_pos (by omega), show bs.length - 8 * i = bs.length % 8 by omega, h1]
  · rw [if_neg h1]
    by_cases h2 : i < (bs.length + 7) / 8
    · rw [toBytes, toBytes, List.getElem?_map, List.getElem?_map, List.getElem?_range h2, List.getElem?_range (by rw [hl]; omega)]
      simp only [Option.map_some]
      rw [valL_snoc, if_neg (by omega)]
      rfl
    · rw [List.getElem?_eq_none (by rw [bytes_len, hl]; omega), List.getElem?_eq_none (by rw [bytes_len]; omega)]
/-- Of the last byte only as many bits are there. -/
theorem valL_tail {bs : List Nat} (h : Bits bs) : valL bs (8 * (bs.length / 8)) 8 < 2 ^ (bs.length % 8) := by
  have key : ∀ n, bs.length ≤ 8 * (bs.length / 8) + n → ∀ m, valL bs (8 * (bs.length / 8)) (n + m) = valL bs (8 * (bs.length / 8)) n := by
    intro n hn m
    induction m with
    | zero => rfl
    | succ m ih => rw [← Nat.add_assoc, valL, ih, getD_past (by omega)]; omega
  have := key (bs.length % 8) (by omega) (8 - bs.length % 8)
  rw [show bs.length % 8 + (8 - bs.length % 8) = 8 by omega] at this
  rw [this]
  exact valL_lt h _ _
/-- The bits as they are read. -/
theorem valL_bit {bs : List Nat} (h : Bits bs) (p : Nat) : ∀ n j, j < n → valL bs p n / 2 ^ j % 2 = bs.getD (p + j) 0
  | 0, _, hj => by omega
  | n + 1, j, hj => by
    have h1 := valL_lt h p n
    have h2 := h.getD (p + n)
    rw [valL]
    by_cases e : j = n
    · subst e
      rw [Nat.add_mul_div_right _ _ (Nat.pow_pos (by decide)), Nat.div_eq_of_lt h1]
      omega
    · have ih := valL_bit h p n j (by omega)
      have e1 : bs.getD (p + n) 0 * 2 ^ n = (bs.getD (p + n) 0 * 2 ^ (n - j - 1) * 2) * 2 ^ j := by
        rw [Nat.mul_assoc, Nat.mul_assoc, ← Nat.pow_succ', ← Nat.pow_add, show n - j - 1 + j.succ = n by omega]
      rw [e1, Nat.add_mul_div_right _ _ (Nat.pow_pos (by decide))]
      omega
theorem bitv_bytes {bs : List Nat} (h : Bits bs) (k : Nat) : Gz.bitv (toBytes bs) k = bs.getD k 0 := by
  unfold Gz.bitv
  by_cases hk : k / 8 < (bs.length + 7) / 8
  · rw [bytes_at bs _ hk, UInt8.toNat_ofNat_of_lt' (by have := valL_lt h (8 * (k / 8)) 8; exact this), valL_bit h _ 8 _ (by omega), show 8 * (k / 8) + k % 8 = k by omega]
  · have e : (toBytes bs).getD (k / 8) 0 = 0 := by rw [List.getD, List.getElem?_eq_none (by rw [bytes_len]; omega)]; rfl
    rw [e, getD_past (by omega)]
    simp
end Pk
end Go.Proofs.YtjjjlilflbddoaaDoor
/-
  The parts of a text: as P11 says. Nothing of the dump is imported.
-/
namespace Go.Proofs.YtjjjlilflbddoaaDoor
namespace Pk

/-- How many of the first m bytes from q on are the same as from p on, up to the first that is not. -/
def runLen (d : List UInt8) (q p : Nat) : Nat → Nat
  | 0 => 0
  | m + 1 => if runLen d q p m = m ∧ d.getD (q + m) 0 = d.getD (p + m) 0 then m + 1 else runLen d q p m
def most (d : List UInt8) (p : Nat) : Nat := min 258 (d.length - p)
def alike (d : List UInt8) (q p : Nat) : Nat := runLen d q p (most d p)
/-- The longest repeat among the distances up to k, of those the nearest: its length and its distance. -/
def bestN (d : List UInt8) (p : Nat) : Nat → Nat × Nat
  | 0 => (0, 0)
  | k + 1 => if (bestN d p k).1 < alike d (p - (k + 1)) p then (alike d (p - (k + 1)) p, k + 1) else bestN d p k
def best (d : List UInt8) (p : Nat) : Nat × Nat := bestN d p p
def tok (d : List UInt8) (p : Nat) : Nat × Nat := if (best d p).1 < 3 then ((d.getD p 0).toNat, 0) else best d p
def adv (d : List UInt8) (p : Nat) : Nat := if (best d p).1 < 3 then 1 else (best d p).1
def toksN (d : List UInt8) : Nat → Nat → List (Nat × Nat)
  | 0, _ => []
  | n + 1, p => if p < d.length then tok d p :: toksN d n (p + adv d p) else []
def toks (d : List UInt8) : List (Nat × Nat) := toksN d d.length 0

theorem run_le (d : List UInt8) (q p : Nat) : ∀ m, runLen d q p m ≤ m
  | 0 => Nat.le_refl _
  | m + 1 => by
    have := run_le d q p m
    unfold runLen
    split
    · exact Nat.le_refl _
    · omega
theorem run_go {d : List UInt8} {q p m : Nat} (h : runLen d q p m = m) (e : d.getD (q + m) 0 = d.getD (p + m) 0) : runLen d q p (m + 1) = m + 1 := by
  rw [runLen, if_pos ⟨h, e⟩]
theorem run_stop {d : List UInt8} {q p m : Nat} (h : runLen d q p m = m) (e : d.getD (q + m) 0 ≠ d.getD (p + m) 0) : ∀ n, m ≤ n → runLen d q p n = m := by
  intro n hn
  induction n with
  | zero =>
    have e0 : m = 0 := by omega
    subst e0
    exact h
  | succ n ih =>
    by_cases e1 : m = n + 1
    · rw [← e1]; exact h
    · rw [runLen, if_neg, ih (by omega)]
      rintro ⟨h1, h2⟩
      have e2 := ih (by omega)
      have e3 : m = n := by omega
      subst e3
      exact e h2
/-- The bytes are the same indeed. -/
theorem run_same {d : List UInt8} {q p : Nat} : ∀ {m : Nat}, ∀ k, k < runLen d q p m → d.getD (q + k) 0 = d.getD (p + k) 0
  | 0, k, h => absurd h (Nat.not_lt_zero _)
  | m + 1, k, h => by
    rw [runLen] at h
    split at h
    · rename_i hh
      by_cases e : k = m
      · subst e; exact hh.2
      · exact run_same (m := m) k (by omega)
    · exact run_same (m := m) k h
theorem alike_le (d : List UInt8) (q p : Nat) : alike d q p ≤ 258 ∧ alike d q p ≤ d.length - p := by
  have := run_le d q p (most d p)
  unfold alike most at *
  omega
theorem best_step (d : List UInt8) (p k : Nat) : bestN d p (k + 1) = if (bestN d p k).1 < alike d (p - (k + 1)) p then (alike d (p - (k + 1)) p, k + 1) else bestN d p k := rfl
/-- What a repeat says is so. -/
theorem bestN_ok (d : List UInt8) (p : Nat) : ∀ k, (bestN d p k).1 ≤ 258 ∧ (bestN d p k).1 ≤ d.length - p ∧ (bestN d p k).2 ≤ k ∧ (0 < (bestN d p k).1 → 0 < (bestN d p k).2 ∧ (bestN d p k).1 = alike d (p - (bestN d p k).2) p)
  | 0 => ⟨Nat.zero_le _, Nat.zero_le _, Nat.le_refl _, fun h => absurd h (Nat.lt_irrefl _)⟩
  | k + 1 => by
    have ih := bestN_ok d p k
    have ha := alike_le d (p - (k + 1)) p
    rw [best_step]
    split
    · exact ⟨ha.1, ha.2, Nat.le_refl _, fun _ => ⟨Nat.succ_pos _, rfl⟩⟩
    · exact ⟨ih.1, ih.2.1, by omega, ih.2.2.2⟩
theorem best_ok (d : List UInt8) (p : Nat) : (best d p).1 ≤ 258 ∧ (best d p).1 ≤ d.length - p ∧ (best d p).2 ≤ p ∧ (0 < (best d p).1 → 0 < (best d p).2 ∧ (best d p).1 = alike d (p - (best d p).2) p) := bestN_ok d p p
theorem adv_pos (d : List UInt8) (p : Nat) : 0 < adv d p := by unfold adv; split <;> omega
theorem adv_le (d : List UInt8) (p : Nat) (h : p < d.length) : p + adv d p ≤ d.length := by
  have := (best_ok d p).2.1
  unfold adv
  split <;> omega
theorem toksN_more (d : List UInt8) : ∀ n m p, d.length - p ≤ n → d.length - p ≤ m → toksN d n p = toksN d m p
  | 0, 0, _, _, _ => rfl
  | 0, m + 1, p, h, _ => by rw [toksN, toksN, if_neg (by omega)]
  | n + 1, 0, p, _, h => by rw [toksN, toksN, if_neg (by omega)]
  | n + 1, m + 1, p, h, h' => by
    rw [toksN, toksN]
    split
    · have := adv_pos d p
      rw [toksN_more d n m (p + adv d p) (by omega) (by omega)]
    · rfl
/-- The tokens from p on. -/
def toksFrom (d : List UInt8) (p : Nat) : List (Nat × Nat) := toksN d (d.length - p) p
theorem toksFrom_at {d : List UInt8} {p : Nat} (h : p < d.length) : toksFrom d p = tok d p :: toksFrom d (p + adv d p) := by
  have := adv_pos d p
  unfold toksFrom
  obtain ⟨n, hn⟩ : ∃ n, d.length - p = n + 1 := ⟨d.length - p - 1, by omega⟩
  rw [hn, toksN, if_pos h, toksN_more d n (d.length - (p + adv d p)) (p + adv d p) (by omega) (Nat.le_refl _)]
theorem toksFrom_end {d : List UInt8} {p : Nat} (h : d.length ≤ p) : toksFrom d p = [] := by
  unfold toksFrom; rw [show d.length - p = 0 by omega]; rfl
theorem toksFrom_zero (d : List UInt8) : toksFrom d 0 = toks d := rfl
theorem toksFrom_len (d : List UInt8) : ∀ n p, d.length - p ≤ n → (toksFrom d p).length ≤ d.length - p
  | 0, p, h => by rw [toksFrom_end (by omega)]; exact Nat.zero_le _
  | n + 1, p, h => by
    by_cases hp : p < d.length
    · have h1 := adv_pos d p
      have ih := toksFrom_len d n (p + adv d p) (by omega)
      rw [toksFrom_at hp, List.length_cons]
      omega
    · rw [toksFrom_end (by omega)]; exact Nat.zero_le _
theorem toks_len (d : List UInt8) : (toks d).length ≤ d.length := toksFrom_len d d.length 0 (Nat.le_refl _)
/-- A token, as P11 says. -/
structure TokOk (d : List UInt8) (p : Nat) (t : Nat × Nat) : Prop where
  lit : t.2 = 0 → t.1 = (d.getD p 0).toNat
  far : t.2 ≠ 0 → 3 ≤ t.1 ∧ t.1 ≤ 258 ∧ t.2 ≤ p ∧ p + t.1 ≤ d.length ∧ ∀ k, k < t.1 → d.getD (p - t.2 + k) 0 = d.getD (p + k) 0
theorem tok_ok (d : List UInt8) (p : Nat) : TokOk d p (tok d p) ∧ adv d p = (if (tok d p).2 = 0 then 1 else (tok d p).1) := by
  have hb := best_ok d p
  unfold tok adv
  by_cases h : (best d p).1 < 3
  · rw [if_pos h, if_pos h, if_pos rfl]
    exact ⟨⟨fun _ => rfl, fun h => absurd rfl h⟩, rfl⟩
  · have h2 := hb.2.2.2 (by omega)
    rw [if_neg h, if_neg h, if_neg (by omega)]
    refine ⟨⟨fun h => by omega, fun _ => ⟨by omega, hb.1, hb.2.2.1, by omega, fun k hk => ?_⟩⟩, rfl⟩
    rw [h2.2] at hk
    exact run_same k hk
end Pk
end Go.Proofs.YtjjjlilflbddoaaDoor
