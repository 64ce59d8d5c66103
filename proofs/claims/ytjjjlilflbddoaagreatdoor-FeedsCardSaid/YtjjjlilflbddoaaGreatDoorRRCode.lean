import Derived.Test.YtjjjlilflbddoaaGreatDoorQPure
/-
  The document's codes against the counted ones.
-/
namespace Go.Proofs.YtjjjlilflbddoaaGreatDoor


/-- How many of the first i have length n. -/
def rk (l : List Nat) (i n : Nat) : Nat := (Gz.counts (l.take i)).getD n 0
theorem rk_zero (l : List Nat) (n : Nat) : rk l 0 n = 0 := by
  unfold rk Gz.counts
  rw [List.take_zero, List.foldl_nil, List.getD, List.getElem?_replicate]
  split <;> rfl
theorem rk_succ (l : List Nat) (hl : Lens l) (i n : Nat) (h : i < l.length) (h0 : 0 < n) : rk l (i + 1) n = rk l i n + (if l.getD i 0 = n then 1 else 0) := by
  unfold rk
  rw [counts_snoc l i h]
  have h15 := hl i h
  by_cases e : l.getD i 0 = n
  · rw [if_pos e, e, if_pos h0, getD_set_same _ _ _ (by rw [counts_length]; omega)]
  · rw [if_neg e]
    split
    · rw [getD_set_ne _ _ _ _ e]; rfl
    · rfl
theorem rk_all (l : List Nat) (n : Nat) : rk l l.length n = (Gz.counts l).getD n 0 := by unfold rk; rw [List.take_length]
theorem rk_mono (l : List Nat) (hl : Lens l) (n i j : Nat) (h : i ≤ j) (hj : j ≤ l.length) : rk l i n ≤ rk l j n := by
  have := counts_mono l hl n i (j - i) (by omega)
  rw [show i + (j - i) = j by omega] at this
  exact this
theorem rk_nil (l : List Nat) : ∀ i, i ≤ l.length → rk l i 0 = 0
  | 0, _ => rk_zero l 0
  | i + 1, h => by
    have ih := rk_nil l i (by omega)
    unfold rk at *
    rw [counts_snoc l i (by omega)]
    split
    · rw [getD_set_ne _ _ _ _ (by omega)]; exact ih
    · exact ih
theorem counts_nil (l : List Nat) : (Gz.counts l).getD 0 0 = 0 := by rw [← rk_all]; exact rk_nil l _ (Nat.le_refl _)
theorem rk_lt (l : List Nat) (hl : Lens l) (i n : Nat) (h : i < l.length) (h0 : 0 < n) (e : l.getD i 0 = n) : rk l i n < (Gz.counts l).getD n 0 := by
  have h1 := rk_succ l hl i n h h0
  rw [if_pos e] at h1
  have h2 := rk_mono l hl n (i + 1) l.length (by omega) (Nat.le_refl _)
  rw [rk_all] at h2
  omega
/-- Each place is somebody's. -/
theorem rk_ex (l : List Nat) (hl : Lens l) (n r : Nat) (h0 : 0 < n) : ∀ k, k ≤ l.length → r < rk l k n → ∃ i, i < k ∧ l.getD i 0 = n ∧ rk l i n = r
  | 0, _, hr => by rw [rk_zero] at hr; omega
  | k + 1, hk, hr => by
    rw [rk_succ l hl k n (by omega) h0] at hr
    by_cases h : r < rk l k n
    · obtain ⟨i, h1, h2, h3⟩ := rk_ex l hl n r h0 k (by omega) h
      exact ⟨i, by omega, h2, h3⟩
    · split at hr
      · rename_i e; exact ⟨k, by omega, e, by omega⟩
      · omega

/-- What the codes of length n begin with, halved. -/
def fst (c : List Nat) : Nat → Nat
  | 0 => 0
  | n + 1 => 2 * fst c n + c.getD n 0

/-- The document's codes. -/
def codes (l : List Nat) : List Nat := (List.range l.length).map fun i => if 0 < l.getD i 0 then 2 * fst (Gz.counts l) (l.getD i 0) + rk l i (l.getD i 0) else 0
theorem codes_len (l : List Nat) : (codes l).length = l.length := by simp [codes]
theorem codes_get (l : List Nat) (i : Nat) (h : i < l.length) : (codes l).getD i 0 = if 0 < l.getD i 0 then 2 * fst (Gz.counts l) (l.getD i 0) + rk l i (l.getD i 0) else 0 := by
  simp [codes, List.getD, h]

theorem sum_take_mono (c : List Nat) (i j : Nat) (h : i ≤ j) : (c.take i).sum ≤ (c.take j).sum := by
  have e : c.take i = (c.take j).take i := by rw [List.take_take, Nat.min_eq_left h]
  rw [e]; exact sum_take_le _ _

/-- Where each symbol lies. -/
theorem fill_at (l : List Nat) (hl : Lens l) : ∀ k, k ≤ l.length → ∀ i, i < k → 0 < l.getD i 0 → (fillTo l k).1.getD (((Gz.counts l).take (l.getD i 0)).sum + rk l i (l.getD i 0)) 0 = i
  | 0, _, i, hi, _ => by omega
  | k + 1, hk, i, hi, h0 => by
    have hinv := fill_inv l hl k (by omega)
    have hlk := hl k (by omega)
    have hli := hl i (by omega)
    rw [fillTo_succ l k (by omega)]
    unfold Gz.fillStep
    by_cases hk0 : 0 < l.getD k 0
    · have hp := hinv.2.2 (l.getD k 0) hk0 (by omega)
      have hlt := fill_lt l hl k (by omega) hk0
      simp only [if_pos hk0]
      rw [hp]
      rw [hp] at hlt
      by_cases e : i = k
      · subst e
        exact getD_set_same _ _ _ (by rw [hinv.1]; exact hlt)
      · rw [getD_set_ne]
        · exact fill_at l hl k (by omega) i (by omega) h0
        · have r1 := rk_lt l hl i _ (by omega) h0 rfl
          have r2 := rk_lt l hl k _ (by omega) hk0 rfl
          have hcl := counts_length l
          have r2' : (Gz.counts (l.take k)).getD (l.getD k 0) 0 = rk l k (l.getD k 0) := rfl
          rw [r2']
          rcases Nat.lt_trichotomy (l.getD k 0) (l.getD i 0) with h | h | h
          · have h1 := sum_take_mono (Gz.counts l) (l.getD k 0 + 1) (l.getD i 0) h
            rw [sum_take_succ _ _ (by omega)] at h1
            omega
          · have h1 := rk_succ l hl i (l.getD i 0) (by omega) h0
            rw [if_pos rfl] at h1
            have h2 := rk_mono l hl (l.getD i 0) (i + 1) k (by omega) (by omega)
            rw [h]
            omega
          · have h1 := sum_take_mono (Gz.counts l) (l.getD i 0 + 1) (l.getD k 0) h
            rw [sum_take_succ _ _ (by omega)] at h1
            omega
    · simp only [if_neg hk0]
      have e : i ≠ k := fun e => hk0 (e ▸ h0)
      exact fill_at l hl k (by omega) i (by omega) h0

/-- A symbol of the code t is the one that is counted. -/
theorem code_hit (l : List Nat) (hl : Lens l) (i n t : Nat) (hi : i < l.length) (h0 : 0 < n) (e : l.getD i 0 = n) (ec : (codes l).getD i 0 = t) :
    2 * fst (Gz.counts l) n ≤ t ∧ t < 2 * fst (Gz.counts l) n + (Gz.counts l).getD n 0 ∧ (Gz.makeCode l).symbols.getD (((Gz.counts l).take n).sum + t - 2 * fst (Gz.counts l) n) 0 = i := by
  rw [codes_get l i hi, if_pos (by omega), e] at ec
  have h1 := rk_lt l hl i n hi h0 e
  refine ⟨by omega, by omega, ?_⟩
  have h2 := fill_at l hl l.length (Nat.le_refl _) i hi (by omega)
  rw [fillTo_end, e] at h2
  rw [show ((Gz.counts l).take n).sum + t - 2 * fst (Gz.counts l) n = ((Gz.counts l).take n).sum + rk l i n by omega]
  exact h2
/-- No symbol of the code t: none is counted. -/
theorem code_miss (l : List Nat) (hl : Lens l) (n t : Nat) (h0 : 0 < n) (hno : ∀ i, i < l.length → l.getD i 0 = n → (codes l).getD i 0 ≠ t) (hf : 2 * fst (Gz.counts l) n ≤ t) :
    ¬ t < 2 * fst (Gz.counts l) n + (Gz.counts l).getD n 0 := by
  intro h
  obtain ⟨i, h1, h2, h3⟩ := rk_ex l hl n (t - 2 * fst (Gz.counts l) n) h0 l.length (Nat.le_refl _) (by rw [rk_all]; omega)
  apply hno i h1 h2
  rw [codes_get l i h1, if_pos (by omega), h2, h3]
  omega

theorem max_ge (l : List Nat) : ∀ k, k ≤ l.length → ∀ i, i < k → l.getD i 0 ≤ (l.take k).foldl max 0
  | 0, _, i, hi => by omega
  | k + 1, hk, i, hi => by
    rw [max_snoc l k (by omega)]
    by_cases e : i = k
    · subst e; exact Nat.le_max_right _ _
    · exact Nat.le_trans (max_ge l k (by omega) i (by omega)) (Nat.le_max_left _ _)
theorem longest_ge (l : List Nat) (i : Nat) (h : i < l.length) : l.getD i 0 ≤ (Gz.makeCode l).longest := by
  have := max_ge l l.length (Nat.le_refl _) i h
  rw [List.take_length] at this
  exact this
theorem max_le (l : List Nat) (n : Nat) : ∀ k, k ≤ l.length → (∀ i, i < k → l.getD i 0 ≤ n) → (l.take k).foldl max 0 ≤ n
  | 0, _, _ => by simp
  | k + 1, hk, h => by
    rw [max_snoc l k (by omega)]
    exact Nat.max_le.2 ⟨max_le l n k (by omega) (fun i hi => h i (by omega)), h k (by omega)⟩
theorem longest_le (l : List Nat) (n : Nat) (h : ∀ i, i < l.length → l.getD i 0 ≤ n) : (Gz.makeCode l).longest ≤ n := by
  have := max_le l n l.length (Nat.le_refl _) h
  rw [List.take_length] at this
  exact this

theorem makeCode_longest (l : List Nat) (hl : Lens l) : (Gz.makeCode l).longest ≤ 15 := longest_le l 15 hl

/-- Lengths of which none is there. -/
theorem shareOf_pos (n : Nat) (h : 0 < n) (h15 : n ≤ 15) : 0 < shareOf n := by
  unfold shareOf
  rw [if_pos h]
  have : 2 ^ n ≤ 2 ^ 15 := Nat.pow_le_pow_right (by decide) h15
  exact Nat.div_pos (by omega) (Nat.pow_pos (by decide))
theorem share_none (l : List Nat) (hl : Lens l) : ∀ k, k ≤ l.length → (Gz.share (l.take k) = 0 ↔ ∀ i, i < k → l.getD i 0 = 0)
  | 0, _ => by simp [Gz.share]
  | k + 1, hk => by
    rw [share_take l k (by omega)]
    have ih := share_none l hl k (by omega)
    have h15 := hl k (by omega)
    constructor
    · intro h i hi
      by_cases e : i = k
      · subst e
        rcases Nat.eq_zero_or_pos (l.getD i 0) with h0 | h0
        · exact h0
        · have := shareOf_pos _ h0 h15; omega
      · exact ih.1 (by omega) i (by omega)
    · intro h
      rw [ih.2 (fun i hi => h i (by omega)), h k (by omega)]
      rfl
theorem longest_none (l : List Nat) (hl : Lens l) : Gz.share l = 0 ↔ (Gz.makeCode l).longest = 0 := by
  have h := share_none l hl l.length (Nat.le_refl _)
  rw [List.take_length] at h
  rw [h]
  constructor
  · intro h
    have := longest_le l 0 (fun i hi => by rw [h i hi]; exact Nat.le_refl _)
    omega
  · intro h i hi
    have := longest_ge l i hi
    omega
end Go.Proofs.YtjjjlilflbddoaaGreatDoor
/-
  The document's reader as a function. Nothing of the dump is imported.
-/
namespace Go.Proofs.YtjjjlilflbddoaaGreatDoor
namespace Rf

/-- What has been read: st is 0 as long as it goes on; 2: the bits do not suffice; else what was met. -/
structure D where
  pos : Nat
  st : Nat
  out : List UInt8
  keys : List (List Nat)
  kinds : List Nat
  toks : List (Nat × Nat)

def put (lim : Nat) (x : D) (c : UInt8) : D := if lim ≤ x.out.length then { x with st := 8 } else { x with out := x.out ++ [c] }

def copyN (lim far : Nat) : Nat → D → D
  | 0, x => x
  | n + 1, x => if x.st = 0 then copyN lim far n (put lim x (x.out.getD (x.out.length - far) 0)) else x

/-- A length and a distance. -/
def lenDist (d : List UInt8) (fc : Gz.Code) (sy p : Nat) : Gz.Out (Nat × Nat) :=
  (Gz.num d (Gz.lenBits sy) p).bind fun v p1 => (Gz.dist d fc p1).bind fun far p2 => .ok ((Gz.lenFrom.getD (sy - 257) 0 + v, far), p2)

def copied (d : List UInt8) (lim : Nat) (fc : Gz.Code) (sy : Nat) (x : D) : D :=
  if 285 < sy then { x with st := 6 } else
  match lenDist d fc sy x.pos with
  | .error k => { x with st := k }
  | .ok ((n, far), p2) => if x.out.length < far then { x with st := 7, pos := p2 } else copyN lim far n { x with pos := p2, toks := x.toks ++ [(n, far)] }

/-- One symbol; true: the block has ended. -/
def symStep (d : List UInt8) (lim : Nat) (t : Gz.Table) (x : D) : D × Bool :=
  match Gz.sym d t.syms x.pos with
  | .error k => ({ x with st := k }, false)
  | .ok (sy, p1) =>
    if sy = 256 then ({ x with pos := p1 }, true)
    else if sy < 256 then (put lim { x with pos := p1, toks := x.toks ++ [(sy, 0)] } (UInt8.ofNat sy), false)
    else (copied d lim t.dists sy { x with pos := p1 }, false)

def symsN (d : List UInt8) (lim : Nat) (t : Gz.Table) : Nat → D → D
  | 0, x => x
  | n + 1, x => if x.st = 0 then (if (symStep d lim t x).2 then (symStep d lim t x).1 else symsN d lim t n (symStep d lim t x).1) else x
def syms (d : List UInt8) (lim : Nat) (t : Gz.Table) (x : D) : D := symsN d lim t (8 * d.length + 1 - x.pos) x

/-- n bytes of a block of kind 0. -/
def bytesN (d : List UInt8) (lim : Nat) : Nat → D → D
  | 0, x => x
  | n + 1, x => if x.st = 0 then (match Gz.num d 8 x.pos with
    | .error k => { x with st := k }
    | .ok (v, p1) => bytesN d lim n (put lim { x with pos := p1 } (UInt8.ofNat v))) else x

def stored (d : List UInt8) (lim : Nat) (x : D) : D :=
  match (Gz.num d 16 (8 * ((x.pos + 7) / 8))).bind fun n p1 => (Gz.num d 16 p1).bind fun m p2 => .ok ((n, m), p2) with
  | .error k => { x with st := k }
  | .ok ((n, m), p2) => if m + n ≠ 65535 then { x with st := 4, pos := p2 } else bytesN d lim n { x with pos := p2 }

/-- Are these lengths right? -/
def right (a b : List Nat) : Bool := Gz.complete a && (a.getD 256 0 != 0) && (decide (b.sum ≤ 1) || Gz.complete b)

/-- The lengths of a block of kind 2. -/
def lens (d : List UInt8) (p : Nat) : Gz.Out (List Nat × List Nat) :=
  (Gz.num d 5 p).bind fun a p1 => (Gz.num d 5 p1).bind fun b p2 => (Gz.num d 4 p2).bind fun c p3 =>
    if 286 < a + 257 ∨ 30 < b + 1 then .error 5 else
    (Gz.tellGo d (c + 4) 0 (List.replicate 19 0) p3).bind fun f p4 => if Gz.complete f then
      (Gz.told d (Gz.makeCode f) (a + 257 + (b + 1)) p4).bind fun l p5 =>
        if right (l.take (a + 257)) (l.drop (a + 257)) then .ok ((Gz.wide (l.take (a + 257)) 286, Gz.wide (l.drop (a + 257)) 30), p5) else .error 5
      else .error 5

def fixedA : List Nat := (List.range 288).map Gz.fixedLen
def fixedB : List Nat := List.replicate 32 5

/-- One block; true: it was the last one. -/
def block (d : List UInt8) (lim : Nat) (x : D) : D × Bool :=
  match (Gz.num d 1 x.pos).bind fun a p1 => (Gz.num d 2 p1).bind fun k p2 => .ok ((a, k), p2) with
  | .error k => ({ x with st := k }, false)
  | .ok ((a, k), p2) =>
    if k = 3 then ({ x with st := 3, pos := p2 }, false)
    else if k = 0 then (stored d lim { x with pos := p2, kinds := x.kinds ++ [0] }, a == 1)
    else if k = 1 then (syms d lim ⟨Gz.makeCode fixedA, Gz.makeCode fixedB⟩ { x with pos := p2, kinds := x.kinds ++ [1] }, a == 1)
    else match lens d p2 with
      | .error k => ({ x with st := k, kinds := x.kinds ++ [2] }, a == 1)
      | .ok ((l, f), p3) => (syms d lim ⟨Gz.makeCode l, Gz.makeCode f⟩ { x with pos := p3, kinds := x.kinds ++ [2], keys := x.keys ++ [l ++ f] }, a == 1)

/-- All blocks; the answer: what was read, and whether the last block has ended. -/
def readN (d : List UInt8) (lim : Nat) : Nat → D → D × Bool
  | 0, x => (x, false)
  | n + 1, x => if (block d lim x).1.st = 0 then (if (block d lim x).2 then ((block d lim x).1, true) else readN d lim n (block d lim x).1) else ((block d lim x).1, false)
def start : D := { pos := 0, st := 0, out := [], keys := [], kinds := [], toks := [] }
def read (d : List UInt8) (lim : Nat) : D × Bool := readN d lim (8 * d.length + 1) start

end Rf
end Go.Proofs.YtjjjlilflbddoaaGreatDoor
