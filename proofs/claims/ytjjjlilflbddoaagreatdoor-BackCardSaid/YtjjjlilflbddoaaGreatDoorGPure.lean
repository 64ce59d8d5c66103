
/-
  The plain mathematics of the reader: packed data as a function of bytes. Nothing of the dump is imported.
-/
namespace Go.Proofs.YtjjjlilflbddoaaGreatDoor
namespace Gz

/-- What a reading part comes to: a value and the bit behind it, or the number of what was met (2: the bits do not suffice). -/
abbrev Out (α : Type) : Type := Except Nat (α × Nat)

def bitv (d : List UInt8) (k : Nat) : Nat := ((d.getD (k / 8) 0).toNat / 2 ^ (k % 8)) % 2

/-- The number of the n bits from 'at' on, the lowest first. -/
def val (d : List UInt8) (p : Nat) : Nat → Nat
  | 0 => 0
  | n + 1 => val d p n + bitv d (p + n) * 2 ^ n

/-- A number of n bits. -/
def num (d : List UInt8) (n p : Nat) : Out Nat := if p + n ≤ 8 * d.length then .ok ((val d p n), (p + n)) else .error 2

structure Code where
  count : List Nat
  symbols : List Nat
  longest : Nat

def symGo (d : List UInt8) (c : Code) : Nat → Nat → Nat → Nat → Nat → Nat → Out Nat
  | 0, _, _, _, _, _ => .error 6
  | m + 1, n, taken, first, shorter, p =>
    if p < 8 * d.length then
      if 2 * taken + bitv d p < 2 * first + c.count.getD n 0 then .ok ((c.symbols.getD (shorter + (2 * taken + bitv d p) - 2 * first) 0), (p + 1))
      else symGo d c m (n + 1) (2 * taken + bitv d p) (2 * first + c.count.getD n 0) (shorter + c.count.getD n 0) (p + 1)
    else .error 2

def sym (d : List UInt8) (c : Code) (p : Nat) : Out Nat := symGo d c c.longest 1 0 0 0 p

def Out.bind {α β : Type} (r : Out α) (f : α → Nat → Out β) : Out β :=
  match r with
  | .ok (a, p) => f a p
  | .error k => .error k

def lenBits (s : Nat) : Nat := if s ≤ 264 ∨ s = 285 then 0 else (s - 261) / 4
def distBits (s : Nat) : Nat := if s ≤ 3 then 0 else s / 2 - 1
def lenFrom : List Nat := [3, 4, 5, 6, 7, 8, 9, 10, 11, 13, 15, 17, 19, 23, 27, 31, 35, 43, 51, 59, 67, 83, 99, 115, 131, 163, 195, 227, 258]
def distFrom : List Nat := [1, 2, 3, 4, 5, 7, 9, 13, 17, 25, 33, 49, 65, 97, 129, 193, 257, 385, 513, 769, 1025, 1537, 2049, 3073, 4097, 6145, 8193, 12289, 16385, 24577]

structure Table where
  syms : Code
  dists : Code

def dist (d : List UInt8) (c : Code) (p : Nat) : Out Nat :=
  (sym d c p).bind fun s p1 => if 29 < s then .error 6 else (num d (distBits s) p1).bind fun v p2 => .ok ((distFrom.getD s 0 + v), p2)

/-- n bytes more, each a copy of the one so far back; none beyond the limit. -/
def copyGo (lim far : Nat) : Nat → List UInt8 → Option (List UInt8)
  | 0, out => some out
  | n + 1, out => if lim ≤ out.length then none else copyGo lim far n (out ++ [out.getD (out.length - far) 0])

def rep (d : List UInt8) (t : Table) (lim s : Nat) (out : List UInt8) (p : Nat) : Out (List UInt8) :=
  (num d (lenBits s) p).bind fun v p1 => (dist d t.dists p1).bind fun far p2 =>
    if out.length < far then .error 7 else
    match copyGo lim far (lenFrom.getD (s - 257) 0 + v) out with
    | none => .error 8
    | some o => .ok (o, p2)

/-- What a symbol says: the bytes put out so far, and whether the block has ended. -/
def obey (d : List UInt8) (t : Table) (lim s : Nat) (out : List UInt8) (p : Nat) : Out (List UInt8 × Bool) :=
  if s < 256 then (if lim ≤ out.length then .error 8 else .ok ((out ++ [UInt8.ofNat s], false), p))
  else if s = 256 then .ok ((out, true), p)
  else if s ≤ 285 then (rep d t lim s out p).bind fun o p1 => .ok ((o, false), p1)
  else .error 6

/-- Rounds that each go on by a bit at least, up to N; n: how many at most. -/
def iterN {σ ρ : Type} (N : Nat) (step : σ → Nat → Out (σ ⊕ ρ)) : Nat → σ → Nat → Out ρ
  | 0, s, p => match step s p with
    | .error k => .error k
    | .ok (.inr r, q) => .ok (r, q)
    | .ok (.inl _, _) => .error 99
  | n + 1, s, p => match step s p with
    | .error k => .error k
    | .ok (.inr r, q) => .ok (r, q)
    | .ok (.inl s', q) => if p < q ∧ q ≤ N then iterN N step n s' q else .error 99
/-- Rounds that each go on by a bit at least, up to N. -/
def iter {σ ρ : Type} (N : Nat) (step : σ → Nat → Out (σ ⊕ ρ)) (s : σ) (p : Nat) : Out ρ := iterN N step (N - p) s p
theorem iterN_any {σ ρ : Type} (N : Nat) (step : σ → Nat → Out (σ ⊕ ρ)) : ∀ (n m : Nat) (s : σ) (p : Nat), N - p ≤ n → N - p ≤ m → iterN N step n s p = iterN N step m s p
  | 0, 0, _, _, _, _ => rfl
  | 0, m + 1, s, p, h, _ => by
    rw [iterN, iterN]
    split <;> try rfl
    rw [if_neg (by omega)]
  | n + 1, 0, s, p, _, h => by
    rw [iterN, iterN]
    split <;> try rfl
    rw [if_neg (by omega)]
  | n + 1, m + 1, s, p, h, h' => by
    rw [iterN, iterN]
    split <;> try rfl
    split
    · exact iterN_any N step n m _ _ (by omega) (by omega)
    · rfl
theorem iter_eq {σ ρ : Type} (N : Nat) (step : σ → Nat → Out (σ ⊕ ρ)) (s : σ) (p : Nat) : iter N step s p = match step s p with
    | .error k => .error k
    | .ok (.inr r, q) => .ok (r, q)
    | .ok (.inl s', q) => if p < q ∧ q ≤ N then iter N step s' q else .error 99 := by
  unfold iter
  rw [iterN_any N step (N - p) (N - p + 1) s p (Nat.le_refl _) (by omega), iterN]
  split <;> try rfl
  split
  · exact iterN_any N step _ _ _ _ (by omega) (Nat.le_refl _)
  · rfl

def symsStep (d : List UInt8) (t : Table) (lim : Nat) (out : List UInt8) (p : Nat) : Out (List UInt8 ⊕ List UInt8) :=
  (sym d t.syms p).bind fun s p1 => (obey d t lim s out p1).bind fun o p2 => .ok ((if o.2 then .inr o.1 else .inl o.1), p2)

def syms (d : List UInt8) (t : Table) (lim : Nat) (out : List UInt8) (p : Nat) : Out (List UInt8) := iter (8 * d.length) (symsStep d t lim) out p

/-- n bytes of a block of kind 0. -/
def bytes (d : List UInt8) (lim : Nat) : Nat → List UInt8 → Nat → Out (List UInt8)
  | 0, out, p => .ok (out, p)
  | n + 1, out, p => (num d 8 p).bind fun v p1 => if lim ≤ out.length then .error 8 else bytes d lim n (out ++ [UInt8.ofNat v]) p1

def stored (d : List UInt8) (lim : Nat) (out : List UInt8) (p : Nat) : Out (List UInt8) :=
  (num d 16 (8 * ((p + 7) / 8))).bind fun n p1 => (num d 16 p1).bind fun m p2 => if m + n ≠ 65535 then .error 4 else bytes d lim n out p2

/-! The codes. -/

def share (l : List Nat) : Nat := (l.map fun n => if 0 < n then 32768 / 2 ^ n else 0).sum
def complete (l : List Nat) : Bool := share l == 32768

def counts (l : List Nat) : List Nat := l.foldl (fun c n => if 0 < n then c.set n (c.getD n 0 + 1) else c) (List.replicate 16 0)
def places (c : List Nat) : List Nat := (List.range 17).map fun i => (c.take i).sum
def fillStep (sp : List Nat × List Nat) (x : Nat × Nat) : List Nat × List Nat :=
  if 0 < x.2 then (sp.1.set (sp.2.getD x.2 0) x.1, sp.2.set x.2 (sp.2.getD x.2 0 + 1)) else sp
def fill (l : List Nat) : List Nat × List Nat :=
  ((List.range l.length).zip l).foldl fillStep (List.replicate (counts l).sum 0, places (counts l))
def makeCode (l : List Nat) : Code := { count := counts l, symbols := (fill l).1, longest := l.foldl max 0 }

def fixedLen (i : Nat) : Nat := if i ≤ 143 then 8 else if i ≤ 255 then 9 else if i ≤ 279 then 7 else if i < 288 then 8 else 5
def makeTable (l : List Nat) : Table := { syms := makeCode (l.take 288), dists := makeCode (l.drop 288) }
def fixed : Table := makeTable ((List.range 320).map fixedLen)

def order : List Nat := [16, 17, 18, 0, 8, 7, 9, 6, 10, 5, 11, 4, 12, 3, 13, 2, 14, 1, 15]

/-- n numbers of 3 bits, each into its place. -/
def tellGo (d : List UInt8) : Nat → Nat → List Nat → Nat → Out (List Nat)
  | 0, _, l, p => .ok (l, p)
  | n + 1, i, l, p => (num d 3 p).bind fun v p1 => tellGo d n (i + 1) (l.set (order.getD i 0) v) p1

def telling (d : List UInt8) (n p : Nat) : Out Code :=
  (tellGo d n 0 (List.replicate 19 0) p).bind fun l p1 => if complete l then .ok ((makeCode l), p1) else .error 5

/-- Which length a symbol tells (16: that of the last one), and how often. -/
def run (d : List UInt8) (s p : Nat) : Out (Nat × Nat) :=
  if s = 16 then (num d 2 p).bind fun v p1 => .ok ((0, v + 3), p1)
  else if s = 17 then (num d 3 p).bind fun v p1 => .ok ((0, v + 3), p1)
  else if s = 18 then (num d 7 p).bind fun v p1 => .ok ((0, v + 11), p1)
  else .ok ((s, 1), p)

def toldStep (d : List UInt8) (c : Code) (count : Nat) (told : List Nat) (p : Nat) : Out (List Nat ⊕ List Nat) :=
  if told.length < count then
    (sym d c p).bind fun s p1 => (run d s p1).bind fun lt p2 =>
      if s = 16 ∧ told.length = 0 then .error 5
      else if count < told.length + lt.2 then .error 5
      else .ok ((.inl (told ++ List.replicate lt.2 (if s = 16 then told.getLastD 0 else lt.1))), p2)
  else .ok ((.inr told), p)

def told (d : List UInt8) (c : Code) (count p : Nat) : Out (List Nat) := iter (8 * d.length) (toldStep d c count) [] p

def check (l : List Nat) : Bool := (l.getD 256 0 != 0) && complete (l.take 288) && (complete (l.drop 288) || decide ((l.drop 288).sum ≤ 1))

def wide (l : List Nat) (n : Nat) : List Nat := l ++ List.replicate (n - l.length) 0

def codes (d : List UInt8) (p : Nat) : Out Table :=
  (num d 5 p).bind fun a p1 => (num d 5 p1).bind fun b p2 => (num d 4 p2).bind fun c p3 =>
    if 286 < a + 257 ∨ 30 < b + 1 then .error 5 else
    (telling d (c + 4) p3).bind fun tc p4 => (told d tc (a + 257 + (b + 1)) p4).bind fun l p5 =>
      let ls := wide (l.take (a + 257)) 288 ++ wide (l.drop (a + 257)) 32
      if check ls then .ok ((makeTable ls), p5) else .error 5

/-! The blocks. -/

/-- Where the reading stands: before a block's head; before the sizes of a block of kind 0; before the codes; at the end; or within symbols. -/
abbrev Place : Type := (Bool × Bool) ⊕ Table

structure St where
  place : Place
  last : Bool
  out : List UInt8

def ended (last : Bool) : Place := if last then .inl (true, true) else .inl (false, false)

def goOn (d : List UInt8) (lim : Nat) (s : St) (p : Nat) : Out (St ⊕ List UInt8) :=
  match s.place with
  | .inl (false, false) => (num d 1 p).bind fun a p1 => (num d 2 p1).bind fun k p2 =>
      if k = 0 then .ok ((.inl { s with place := .inl (false, true), last := a == 1 }), p2)
      else if k = 1 then .ok ((.inl { s with place := .inr fixed, last := a == 1 }), p2)
      else if k = 2 then .ok ((.inl { s with place := .inl (true, false), last := a == 1 }), p2)
      else .error 3
  | .inl (false, true) => (stored d lim s.out p).bind fun o p1 => .ok ((.inl { s with place := ended s.last, out := o }), p1)
  | .inl (true, false) => (codes d p).bind fun t p1 => (syms d t lim s.out p1).bind fun o p2 => .ok ((.inl { s with place := ended s.last, out := o }), p2)
  | .inr t => (syms d t lim s.out p).bind fun o p1 => .ok ((.inl { s with place := ended s.last, out := o }), p1)
  | .inl (true, true) => .ok ((.inr s.out), p)

def read (d : List UInt8) (lim : Nat) : Out (List UInt8) := iter (8 * d.length) (goOn d lim) { place := .inl (false, false), last := false, out := [] } 0

/-- P4: what is put out, how many bytes were begun, the error's number. -/
def inflate (d : List UInt8) (limit : Int) : List UInt8 × Nat × Nat :=
  if 4000 < d.length then ([], 0, 1)
  else if limit < 0 ∨ 6000 < limit then ([], 0, 11)
  else match read d limit.toNat with
    | .ok (o, p) => (o, (p + 7) / 8, 0)
    | .error k => ([], 0, k)

end Gz
end Go.Proofs.YtjjjlilflbddoaaGreatDoor
namespace Go.Proofs.YtjjjlilflbddoaaGreatDoor

/-- A code by which a walk stays within its lists. -/
structure Good (c : Gz.Code) : Prop where
  long : c.longest ≤ 15
  len : c.count.length = 16
  sum : c.count.sum ≤ c.symbols.length
  few : c.symbols.length ≤ 320
theorem bitv_lt (d : List UInt8) (p : Nat) : Gz.bitv d p < 2 := by unfold Gz.bitv; omega
theorem val_lt (d : List UInt8) (p : Nat) : ∀ n, Gz.val d p n < 2 ^ n
  | 0 => by simp [Gz.val]
  | n + 1 => by
    have h1 := val_lt d p n
    have h2 := bitv_lt d (p + n)
    simp only [Gz.val, Nat.pow_succ]
    have h3 : Gz.bitv d (p + n) = 0 ∨ Gz.bitv d (p + n) = 1 := by omega
    rcases h3 with h3 | h3 <;> rw [h3] <;> omega
theorem sum_take_le (l : List Nat) (n : Nat) : (l.take n).sum ≤ l.sum := by
  have h := List.take_append_drop n l
  have : l.sum = (l.take n).sum + (l.drop n).sum := by rw [← List.sum_append, h]
  omega
theorem sum_take_succ (l : List Nat) (n : Nat) (h : n < l.length) : (l.take (n + 1)).sum = (l.take n).sum + l.getD n 0 := by
  rw [List.take_succ_eq_append_getElem h, List.sum_append]; simp [List.getD, h]
/-- Lengths that are lengths. -/
def Lens (l : List Nat) : Prop := ∀ i, i < l.length → l.getD i 0 ≤ 15
def shareOf (n : Nat) : Nat := if 0 < n then 32768 / 2 ^ n else 0
theorem share_take (l : List Nat) (k : Nat) (h : k < l.length) : Gz.share (l.take (k + 1)) = Gz.share (l.take k) + shareOf (l.getD k 0) := by
  unfold Gz.share
  rw [List.take_succ_eq_append_getElem h, List.map_append, List.sum_append]
  simp only [shareOf, List.getD, List.getElem?_eq_getElem h, Option.getD_some, List.map_cons, List.map_nil, List.sum_cons, List.sum_nil, Nat.add_zero]
theorem shareOf_le (n : Nat) : shareOf n ≤ 32768 := by
  unfold shareOf; split
  · exact Nat.div_le_self _ _
  · omega
theorem share_le (l : List Nat) : ∀ k, Gz.share (l.take k) ≤ k * 32768
  | 0 => by simp [Gz.share]
  | k + 1 => by
    by_cases h : k < l.length
    · rw [share_take l k h]; have := share_le l k; have := shareOf_le (l.getD k 0); omega
    · rw [List.take_of_length_le (by omega)]; have h1 := share_le l k; rw [List.take_of_length_le (by omega)] at h1; exact Nat.le_trans h1 (Nat.mul_le_mul_right _ (by omega))
theorem sum_take_15 (l : List Nat) (hl : Lens l) : ∀ k, k ≤ l.length → (l.take k).sum ≤ k * 15
  | 0, _ => by simp
  | k + 1, h => by rw [sum_take_succ l k (by omega)]; have := sum_take_15 l hl k (by omega); have := hl k (by omega); omega
theorem Lens.take {l : List Nat} (h : Lens l) (k : Nat) : Lens (l.take k) := fun i hi => by
  have h1 : i < l.length := by simp at hi; omega
  have h2 : i < k := by simp at hi; omega
  have e : (l.take k).getD i 0 = l.getD i 0 := by simp [List.getD, List.getElem?_take_of_lt h2]
  rw [e]; exact h i h1
theorem Lens.drop {l : List Nat} (h : Lens l) (k : Nat) : Lens (l.drop k) := fun i hi => by
  have h1 : k + i < l.length := by simp at hi; omega
  have e : (l.drop k).getD i 0 = l.getD (k + i) 0 := by simp [List.getD]
  rw [e]; exact h (k + i) h1
theorem counts_snoc (l : List Nat) (k : Nat) (h : k < l.length) : Gz.counts (l.take (k + 1)) = if 0 < l.getD k 0 then (Gz.counts (l.take k)).set (l.getD k 0) ((Gz.counts (l.take k)).getD (l.getD k 0) 0 + 1) else Gz.counts (l.take k) := by
  unfold Gz.counts
  rw [List.take_succ_eq_append_getElem h, List.foldl_append]
  simp [List.getD, h]
theorem max_snoc (l : List Nat) (k : Nat) (h : k < l.length) : (l.take (k + 1)).foldl max 0 = max ((l.take k).foldl max 0) (l.getD k 0) := by
  rw [List.take_succ_eq_append_getElem h, List.foldl_append]
  simp [List.getD, h]
theorem counts_length (l : List Nat) : (Gz.counts l).length = 16 := by
  unfold Gz.counts
  have : ∀ (l c : List Nat), c.length = 16 → (l.foldl (fun c n => if 0 < n then c.set n (c.getD n 0 + 1) else c) c).length = 16 := by
    intro l
    induction l with
    | nil => intro c h; simpa using h
    | cons a r ih => intro c h; simp only [List.foldl_cons]; apply ih; split <;> simp [h]
  exact this l _ (by simp)
theorem sum_set (c : List Nat) (n : Nat) (h : n < c.length) : (c.set n (c.getD n 0 + 1)).sum = c.sum + 1 := by
  induction c generalizing n with
  | nil => simp at h
  | cons a r ih =>
    cases n with
    | zero => simp; omega
    | succ n => simp at h; have := ih n h; simp [List.getD] at this ⊢; omega
theorem getD_le_sum (c : List Nat) (n : Nat) : c.getD n 0 ≤ c.sum := by
  induction c generalizing n with
  | nil => simp
  | cons a r ih =>
    cases n with
    | zero => simp
    | succ n => have := ih n; simp [List.getD] at this ⊢; omega
theorem counts_sum (l : List Nat) (hl : Lens l) : ∀ k, k ≤ l.length → (Gz.counts (l.take k)).sum ≤ k
  | 0, _ => by simp [Gz.counts]
  | k + 1, h => by
    rw [counts_snoc l k (by omega)]
    have h1 := counts_sum l hl k (by omega)
    split
    · rw [sum_set _ _ (by rw [counts_length]; have := hl k (by omega); omega)]; omega
    · omega
theorem getD_set_same (c : List Nat) (n x : Nat) (h : n < c.length) : (c.set n x).getD n 0 = x := by simp [List.getD, h]
theorem getD_set_ne (c : List Nat) (m n x : Nat) (h : m ≠ n) : (c.set m x).getD n 0 = c.getD n 0 := by simp only [List.getD]; rw [List.getElem?_set_ne h]
/-- The places, as far as they are reckoned. -/
def plk (ct : List Nat) (k : Nat) : List Nat := (List.range 17).map fun i => if i ≤ k then (ct.take i).sum else 0
theorem plk_len (ct : List Nat) (k : Nat) : (plk ct k).length = 17 := by simp [plk]
theorem plk_get (ct : List Nat) (k i : Nat) (hi : i < 17) : (plk ct k).getD i 0 = if i ≤ k then (ct.take i).sum else 0 := by
  simp [plk, List.getD, hi]
theorem plk_zero (ct : List Nat) : plk ct 0 = List.replicate 17 0 := by
  apply List.ext_getElem
  · simp [plk]
  · intro i h1 h2
    simp only [plk, List.getElem_map, List.getElem_range, List.getElem_replicate]
    by_cases e : i ≤ 0
    · have : i = 0 := by omega
      subst this; rfl
    · rw [if_neg e]
theorem plk_end (ct : List Nat) : plk ct 16 = Gz.places ct := by
  unfold plk Gz.places
  apply List.map_congr_left
  intro i hi
  have : i < 17 := by simpa using hi
  rw [if_pos (by omega)]
theorem plk_succ (ct : List Nat) (k : Nat) (h : ct.length = 16) (hk : k < 16) : (plk ct k).set (k + 1) ((plk ct k).getD k 0 + ct.getD k 0) = plk ct (k + 1) := by
  rw [plk_get ct k k (by omega), if_pos (Nat.le_refl _)]
  apply List.ext_getElem
  · simp [plk]
  · intro i h1 h2
    have hi : i < 17 := by simpa [plk] using h2
    simp only [plk, List.getElem_set, List.getElem_map, List.getElem_range]
    by_cases e : k + 1 = i
    · subst e; rw [if_pos rfl, if_pos (Nat.le_refl _), sum_take_succ ct k (by omega)]
    · rw [if_neg e]
      by_cases e2 : i ≤ k
      · rw [if_pos e2, if_pos (by omega)]
      · rw [if_neg e2, if_neg (by omega)]
/-- The symbols, as far as they are laid. -/
def fillTo (l : List Nat) (k : Nat) : List Nat × List Nat :=
  (((List.range l.length).zip l).take k).foldl Gz.fillStep (List.replicate (Gz.counts l).sum 0, Gz.places (Gz.counts l))
theorem fillTo_end (l : List Nat) : fillTo l l.length = Gz.fill l := by
  unfold fillTo Gz.fill
  rw [List.take_of_length_le (by simp)]
theorem fillTo_succ (l : List Nat) (k : Nat) (h : k < l.length) : fillTo l (k + 1) = Gz.fillStep (fillTo l k) (k, l.getD k 0) := by
  unfold fillTo
  rw [List.take_succ_eq_append_getElem (by simpa using h), List.foldl_append]
  simp [List.getD, h]
/-- How many of the first k have length n. -/
theorem fill_inv (l : List Nat) (hl : Lens l) : ∀ k, k ≤ l.length → (fillTo l k).1.length = (Gz.counts l).sum ∧ (fillTo l k).2.length = 17 ∧ ∀ n, 0 < n → n < 16 → (fillTo l k).2.getD n 0 = ((Gz.counts l).take n).sum + (Gz.counts (l.take k)).getD n 0
  | 0, _ => by
    refine ⟨by simp [fillTo], by simp [fillTo, Gz.places], fun n h0 h16 => ?_⟩
    have : (Gz.counts (l.take 0)).getD n 0 = 0 := by simp only [List.take_zero, Gz.counts, List.foldl_nil]; rw [List.getD, List.getElem?_replicate]; split <;> rfl
    rw [this]
    show (Gz.places (Gz.counts l)).getD n 0 = _
    simp [Gz.places, List.getD, show n < 17 by omega]
  | k + 1, h => by
    obtain ⟨h1, h2, h3⟩ := fill_inv l hl k (by omega)
    have h15 := hl k (by omega)
    rw [fillTo_succ l k (by omega)]
    have hc := counts_snoc l k (by omega)
    rw [hc]
    unfold Gz.fillStep
    by_cases hn : 0 < l.getD k 0
    · rw [if_pos hn, if_pos hn]
      refine ⟨by simpa using h1, by simpa using h2, fun n h0 h16 => ?_⟩
      have hcl := counts_length (l.take k)
      by_cases e : l.getD k 0 = n
      · subst e
        have := h3 (l.getD k 0) h0 h16
        rw [getD_set_same _ _ _ (by rw [h2]; omega), getD_set_same _ _ _ (by rw [hcl]; omega)]
        dsimp only
        omega
      · rw [getD_set_ne _ _ _ _ e, getD_set_ne _ _ _ _ e]
        exact h3 n h0 h16
    · rw [if_neg hn, if_neg hn]
      exact ⟨h1, h2, h3⟩
/-- The counts only rise. -/
theorem counts_mono (l : List Nat) (hl : Lens l) (n k : Nat) : ∀ j, k + j ≤ l.length → (Gz.counts (l.take k)).getD n 0 ≤ (Gz.counts (l.take (k + j))).getD n 0
  | 0, _ => Nat.le_refl _
  | j + 1, h => by
    have ih := counts_mono l hl n k j (by omega)
    have hc := counts_snoc l (k + j) (by omega)
    rw [show k + (j + 1) = (k + j) + 1 by omega, hc]
    split
    · by_cases e : l.getD (k + j) 0 = n
      · subst e
        have hx : l.getD (k + j) 0 < (Gz.counts (l.take (k + j))).length := by rw [counts_length]; have := hl (k + j) (by omega); omega
        rw [getD_set_same _ _ _ hx]; omega
      · rw [getD_set_ne _ _ _ _ e]; exact ih
    · exact ih
/-- The place that is written lies within. -/
theorem fill_lt (l : List Nat) (hl : Lens l) (k : Nat) (h : k < l.length) (h0 : 0 < l.getD k 0) : (fillTo l k).2.getD (l.getD k 0) 0 < (Gz.counts l).sum := by
  have h15 := hl k h
  rw [(fill_inv l hl k (by omega)).2.2 _ h0 (by omega)]
  have hm := counts_mono l hl (l.getD k 0) (k + 1) (l.length - (k + 1)) (by omega)
  rw [show k + 1 + (l.length - (k + 1)) = l.length by omega, List.take_length, counts_snoc l k h, if_pos h0] at hm
  have hcl := counts_length (l.take k)
  rw [getD_set_same _ _ _ (by rw [hcl]; omega)] at hm
  have hs := sum_take_succ (Gz.counts l) (l.getD k 0) (by rw [counts_length]; omega)
  have ht := sum_take_le (Gz.counts l) (l.getD k 0 + 1)
  omega
theorem fill_small' (l : List Nat) (h0 : 0 < l.length) : ∀ k, k ≤ l.length → ∀ j, (fillTo l k).1.getD j 0 < l.length
  | 0, _ => fun j => by simp only [fillTo, List.take_zero, List.foldl_nil]; rw [List.getD, List.getElem?_replicate]; split <;> simp <;> exact h0
  | k + 1, h => fun j => by
    rw [fillTo_succ l k (by omega)]
    have ih := fill_small' l h0 k (by omega)
    unfold Gz.fillStep
    split
    · by_cases e : (fillTo l k).2.getD (k, l.getD k 0).2 0 = j
      · subst e
        dsimp only
        by_cases hj : (fillTo l k).2.getD (l.getD k 0) 0 < (fillTo l k).1.length
        · rw [getD_set_same _ _ _ hj]; omega
        · rw [List.getD, List.getElem?_eq_none (by rw [List.length_set]; omega)]; simp; exact h0
      · dsimp only; rw [getD_set_ne _ _ _ _ e]; exact ih j
    · exact ih j
theorem makeCode_small (l : List Nat) (h0 : 0 < l.length) (j : Nat) : (Gz.makeCode l).symbols.getD j 0 < l.length := by
  have := fill_small' l h0 l.length (Nat.le_refl _) j
  rw [fillTo_end] at this
  exact this
theorem makeCode_good (l : List Nat) (hl : Lens l) (hn : l.length ≤ 320) : Good (Gz.makeCode l) := by
  have hi := fill_inv l hl l.length (Nat.le_refl _)
  rw [fillTo_end] at hi
  have hs := counts_sum l hl l.length (Nat.le_refl _)
  rw [List.take_length] at hs
  refine ⟨?_, counts_length l, ?_, ?_⟩
  · have : ∀ k, k ≤ l.length → (l.take k).foldl max 0 ≤ 15 := by
      intro k
      induction k with
      | zero => intro _; simp
      | succ k ih => intro h; rw [max_snoc l k (by omega)]; have := ih (by omega); have := hl k (by omega); omega
    have h2 := this l.length (Nat.le_refl _)
    rw [List.take_length] at h2
    exact h2
  · show (Gz.counts l).sum ≤ (Gz.fill l).1.length
    omega
  · show (Gz.fill l).1.length ≤ 320
    omega
theorem symGo_ok (d : List UInt8) (c : Gz.Code) : ∀ (m n taken first shorter p v q : Nat), Gz.symGo d c m n taken first shorter p = .ok (v, q) → p < q ∧ q ≤ 8 * d.length
  | 0, _, _, _, _, _, _, _, h => by simp [Gz.symGo] at h
  | m + 1, n, taken, first, shorter, p, v, q, h => by
    unfold Gz.symGo at h
    split at h
    · split at h
      · injection h with hpp; injection hpp with h1 h2; omega
      · have := symGo_ok d c m _ _ _ _ _ v q h; omega
    · cases h
theorem sym_ok {d : List UInt8} {c : Gz.Code} {p v q : Nat} (h : Gz.sym d c p = .ok (v, q)) : p < q ∧ q ≤ 8 * d.length := symGo_ok d c _ _ _ _ _ _ _ _ h
theorem symGo_bad (d : List UInt8) (c : Gz.Code) : ∀ (m n taken first shorter p k : Nat), Gz.symGo d c m n taken first shorter p = .error k → k = 2 ∨ k = 6
  | 0, _, _, _, _, _, _, h => by simp [Gz.symGo] at h; omega
  | m + 1, n, taken, first, shorter, p, k, h => by
    unfold Gz.symGo at h
    split at h
    · split at h
      · cases h
      · exact symGo_bad d c m _ _ _ _ _ k h
    · injection h with h1; omega
theorem farFrom_le (v : Nat) : Gz.distFrom[v]?.getD 0 ≤ 24577 := by
  by_cases h : v < 30
  · have : ∀ v, v < 30 → Gz.distFrom[v]?.getD 0 ≤ 24577 := by decide
    exact this v h
  · rw [List.getElem?_eq_none (by simp [Gz.distFrom]; omega)]; simp
theorem lenFrom_le (v : Nat) : Gz.lenFrom[v]?.getD 0 ≤ 258 := by
  by_cases h : v < 29
  · have : ∀ v, v < 29 → Gz.lenFrom[v]?.getD 0 ≤ 258 := by decide
    exact this v h
  · rw [List.getElem?_eq_none (by simp [Gz.lenFrom]; omega)]; simp
theorem lenBits_le (sy : Nat) (h : sy ≤ 285) : Gz.lenBits sy ≤ 5 := by unfold Gz.lenBits; split <;> omega
theorem dist_pos {d : List UInt8} {c : Gz.Code} {p far q : Nat} (h : Gz.dist d c p = .ok (far, q)) : 0 < far := by
  unfold Gz.dist at h
  cases hs : Gz.sym d c p with
  | error k => rw [hs] at h; cases h
  | ok okk =>
    obtain ⟨s, p1⟩ := okk
    rw [hs] at h
    simp only [Gz.Out.bind] at h
    split at h
    · cases h
    · unfold Gz.num at h
      split at h
      · rename_i h29 _
        injection h with hpp; injection hpp with h1 h2
        have : ∀ s, s < 30 → 0 < Gz.distFrom.getD s 0 := by decide
        have := this s (by omega)
        omega
      · cases h
theorem ofNat_toNat (n : Nat) (h : n < 256) : (n : Int) = ((UInt8.ofNat n).toNat : Int) := by simp [UInt8.toNat_ofNat']; omega
theorem num_ok {d : List UInt8} {n p v q : Nat} (h : Gz.num d n p = .ok (v, q)) : q = p + n ∧ q ≤ 8 * d.length := by
  unfold Gz.num at h; split at h
  · injection h with hpp; injection hpp with h1 h2; omega
  · cases h
theorem dist_ok {d : List UInt8} {c : Gz.Code} {p far q : Nat} (h : Gz.dist d c p = .ok (far, q)) : p ≤ q ∧ q ≤ 8 * d.length := by
  unfold Gz.dist at h
  cases hs : Gz.sym d c p with
  | error k => rw [hs] at h; cases h
  | ok okk =>
    obtain ⟨s, p1⟩ := okk
    have h1 := sym_ok hs
    rw [hs] at h
    simp only [Gz.Out.bind] at h
    split at h
    · cases h
    · cases hm : Gz.num d (Gz.distBits s) p1 with
      | error k => rw [hm] at h; cases h
      | ok okk =>
        obtain ⟨v, p2⟩ := okk
        have h2 := num_ok hm
        rw [hm] at h; injection h with hpp; injection hpp with _ h3; omega
theorem rep_ok {d : List UInt8} {t : Gz.Table} {lim sy p q : Nat} {out o : List UInt8} (h : Gz.rep d t lim sy out p = .ok (o, q)) : p ≤ q ∧ q ≤ 8 * d.length := by
  unfold Gz.rep at h
  cases hm : Gz.num d (Gz.lenBits sy) p with
  | error k => rw [hm] at h; cases h
  | ok okk =>
    obtain ⟨v, p1⟩ := okk
    have h1 := num_ok hm
    rw [hm] at h
    simp only [Gz.Out.bind] at h
    cases hs : Gz.dist d t.dists p1 with
    | error k => rw [hs] at h; cases h
    | ok okk =>
      obtain ⟨far, p2⟩ := okk
      have h2 := dist_ok hs
      rw [hs] at h
      simp only at h
      split at h
      · cases h
      · split at h
        · cases h
        · injection h with hpp; injection hpp with _ h3; omega
theorem obey_ok {d : List UInt8} {t : Gz.Table} {lim sy p q : Nat} {out : List UInt8} {x : List UInt8 × Bool} (h : Gz.obey d t lim sy out p = .ok (x, q)) (hp : p ≤ 8 * d.length) : p ≤ q ∧ q ≤ 8 * d.length := by
  unfold Gz.obey at h
  split at h
  · split at h
    · cases h
    · injection h with hpp; injection hpp with _ h3; omega
  · split at h
    · injection h with hpp; injection hpp with _ h3; omega
    · split at h
      · cases hs : Gz.rep d t lim sy out p with
        | error k => rw [hs] at h; cases h
        | ok okk =>
          obtain ⟨o, q'⟩ := okk
          have h2 := rep_ok hs
          rw [hs] at h; injection h with hpp; injection hpp with _ h3; omega
      · cases h
theorem iter_more {σ ρ : Type} {N : Nat} {step : σ → Nat → Gz.Out (σ ⊕ ρ)} {s s' : σ} {p q : Nat} (h : step s p = .ok ((.inl s'), q)) (h1 : p < q) (h2 : q ≤ N) : Gz.iter N step s p = Gz.iter N step s' q := by
  rw [Gz.iter_eq, h]; simp only; rw [if_pos ⟨h1, h2⟩]
theorem iter_end {σ ρ : Type} {N : Nat} {step : σ → Nat → Gz.Out (σ ⊕ ρ)} {s : σ} {r : ρ} {p q : Nat} (h : step s p = .ok ((.inr r), q)) : Gz.iter N step s p = .ok (r, q) := by
  rw [Gz.iter_eq, h]
theorem iter_bad {σ ρ : Type} {N : Nat} {step : σ → Nat → Gz.Out (σ ⊕ ρ)} {s : σ} {p k : Nat} (h : step s p = .error k) : Gz.iter N step s p = .error k := by
  rw [Gz.iter_eq, h]
theorem bytes_ok {d : List UInt8} {lim : Nat} : ∀ {n : Nat} {out o : List UInt8} {p q : Nat}, Gz.bytes d lim n out p = .ok (o, q) → p ≤ 8 * d.length → p ≤ q ∧ q ≤ 8 * d.length
  | 0, out, o, p, q, h, hp => by injection h with hpp; injection hpp with h1 h2; omega
  | n + 1, out, o, p, q, h, hp => by
    unfold Gz.bytes at h
    cases hm : Gz.num d 8 p with
    | error k => rw [hm] at h; cases h
    | ok okk =>
      obtain ⟨v, p1⟩ := okk
      have h1 := num_ok hm
      rw [hm] at h
      simp only [Gz.Out.bind] at h
      split at h
      · cases h
      · have := bytes_ok h h1.2; omega
theorem symGo_lt (d : List UInt8) (c : Gz.Code) (N : Nat) (hc : ∀ j, c.symbols.getD j 0 < N) : ∀ (m n taken first shorter p v q : Nat), Gz.symGo d c m n taken first shorter p = .ok (v, q) → v < N
  | 0, _, _, _, _, _, _, _, h => by simp [Gz.symGo] at h
  | m + 1, n, taken, first, shorter, p, v, q, h => by
    unfold Gz.symGo at h
    split at h
    · split at h
      · injection h with hpp; injection hpp with h1 h2; rw [← h1]; exact hc _
      · exact symGo_lt d c N hc m _ _ _ _ _ v q h
    · cases h
theorem lastD (l : List Nat) : l.getLastD 0 = l.getD (l.length - 1) 0 := by rw [List.getLastD_eq_getLast?, List.getLast?_eq_getElem?]; rfl
theorem run_bad {d : List UInt8} {sy p k : Nat} (h : Gz.run d sy p = .error k) : k = 2 := by
  unfold Gz.run Gz.num at h
  split at h
  · split at h <;> simp [Gz.Out.bind] at h; omega
  · split at h
    · split at h <;> simp [Gz.Out.bind] at h; omega
    · split at h
      · split at h <;> simp [Gz.Out.bind] at h; omega
      · cases h
theorem run_ok {d : List UInt8} {sy p q : Nat} {x : Nat × Nat} (h : Gz.run d sy p = .ok (x, q)) (hp : p ≤ 8 * d.length) : p ≤ q ∧ q ≤ 8 * d.length ∧ 1 ≤ x.2 ∧ x.2 ≤ 138 ∧ (sy < 16 → x.1 = sy) ∧ (16 ≤ sy → sy < 19 → x.1 = 0) := by
  unfold Gz.run Gz.num at h
  have v2 := val_lt d p 2
  have v3 := val_lt d p 3
  have v7 := val_lt d p 7
  split at h
  · split at h
    · simp only [Gz.Out.bind] at h; injection h with hpp; injection hpp with h1 h2; subst h1; simp; omega
    · cases h
  · split at h
    · split at h
      · simp only [Gz.Out.bind] at h; injection h with hpp; injection hpp with h1 h2; subst h1; simp; omega
      · cases h
    · split at h
      · split at h
        · simp only [Gz.Out.bind] at h; injection h with hpp; injection hpp with h1 h2; subst h1; simp; omega
        · cases h
      · injection h with hpp; injection hpp with h1 h2; subst h1; simp; omega
theorem lens_set {l : List Nat} {i x : Nat} (h : Lens l) (hx : x ≤ 15) : Lens (l.set i x) := by
  intro j hj
  by_cases e : i = j
  · subst e; rw [getD_set_same _ _ _ (by simpa using hj)]; omega
  · rw [getD_set_ne _ _ _ _ e]; exact h j (by simpa using hj)
theorem order_le (k : Nat) (h : k < 19) : Gz.order.getD k 0 < 19 := by
  have : ∀ k, k < 19 → Gz.order.getD k 0 < 19 := by decide
  exact this k h
end Go.Proofs.YtjjjlilflbddoaaGreatDoor
namespace Go.Proofs.YtjjjlilflbddoaaGreatDoor

theorem iter_inv {σ ρ : Type} {N : Nat} {step : σ → Nat → Gz.Out (σ ⊕ ρ)} (P : σ → Nat → Prop) (R : ρ → Nat → Prop)
    (hs : ∀ s p s' q, P s p → step s p = .ok ((.inl s'), q) → P s' q) (he : ∀ s p r q, P s p → step s p = .ok ((.inr r), q) → R r q) :
    ∀ (n : Nat) (s : σ) (p : Nat), N - p ≤ n → P s p → ∀ r q, Gz.iter N step s p = .ok (r, q) → R r q := by
  intro n
  induction n with
  | zero =>
    intro s p hn hp r q h
    rw [Gz.iter_eq] at h
    cases hst : step s p with
    | error k => rw [hst] at h; cases h
    | ok okk =>
      obtain ⟨x, q'⟩ := okk
      rw [hst] at h
      cases x with
      | inr r' => injection h with hpp; injection hpp with h1 h2; subst h1; subst h2; exact he s p r' q' hp hst
      | inl s' =>
        simp only at h
        split at h
        · rename_i hpq; omega
        · cases h
  | succ n ih =>
    intro s p hn hp r q h
    rw [Gz.iter_eq] at h
    cases hst : step s p with
    | error k => rw [hst] at h; cases h
    | ok okk =>
      obtain ⟨x, q'⟩ := okk
      rw [hst] at h
      cases x with
      | inr r' => injection h with hpp; injection hpp with h1 h2; subst h1; subst h2; exact he s p r' q' hp hst
      | inl s' =>
        simp only at h
        split at h
        · rename_i hpq; exact ih s' q' (by omega) (hs s p s' q' hp hst) r q h
        · cases h
theorem told_len {d : List UInt8} {c : Gz.Code} {count p q : Nat} {l : List Nat} (h : Gz.told d c count p = .ok (l, q)) : l.length = count := by
  refine iter_inv (P := fun l _ => l.length ≤ count) (R := fun l _ => l.length = count) ?_ ?_ (8 * d.length) [] p (by omega) (Nat.zero_le _) l q h
  · intro l p l' q hl hst
    unfold Gz.toldStep at hst
    split at hst
    · cases hs : Gz.sym d c p with
      | error k => rw [hs] at hst; cases hst
      | ok okk =>
        obtain ⟨sy, p1⟩ := okk
        rw [hs] at hst
        simp only [Gz.Out.bind] at hst
        cases hr : Gz.run d sy p1 with
        | error k => rw [hr] at hst; cases hst
        | ok okk =>
          obtain ⟨x, p2⟩ := okk
          rw [hr] at hst
          simp only at hst
          split at hst
          · cases hst
          · split at hst
            · cases hst
            · injection hst with hpp; injection hpp with h1 h2; injection h1 with h1; subst h1; simp; omega
    · injection hst with hpp; injection hpp with h1 h2; cases h1
  · intro l p r q hl hst
    unfold Gz.toldStep at hst
    split at hst
    · cases hs : Gz.sym d c p with
      | error k => rw [hs] at hst; cases hst
      | ok okk =>
        obtain ⟨sy, p1⟩ := okk
        rw [hs] at hst
        simp only [Gz.Out.bind] at hst
        cases hr : Gz.run d sy p1 with
        | error k => rw [hr] at hst; cases hst
        | ok okk =>
          obtain ⟨x, p2⟩ := okk
          rw [hr] at hst
          simp only at hst
          split at hst
          · cases hst
          · split at hst
            · cases hst
            · injection hst with hpp; injection hpp with h1 h2; cases h1
    · injection hst with hpp; injection hpp with h1 h2; injection h1 with h1; subst h1; omega
theorem tellGo_ok {d : List UInt8} : ∀ {n i p q : Nat} {l r : List Nat}, Gz.tellGo d n i l p = .ok (r, q) → p ≤ 8 * d.length → p ≤ q ∧ q ≤ 8 * d.length
  | 0, i, p, q, l, r, h, hp => by injection h with hpp; injection hpp with h1 h2; omega
  | n + 1, i, p, q, l, r, h, hp => by
    unfold Gz.tellGo at h
    cases hm : Gz.num d 3 p with
    | error k => rw [hm] at h; cases h
    | ok okk =>
      obtain ⟨v, p1⟩ := okk
      have h1 := num_ok hm
      rw [hm] at h
      have := tellGo_ok h h1.2
      omega
theorem telling_ok {d : List UInt8} {n p q : Nat} {c : Gz.Code} (h : Gz.telling d n p = .ok (c, q)) (hp : p ≤ 8 * d.length) : q ≤ 8 * d.length := by
  unfold Gz.telling at h
  cases hm : Gz.tellGo d n 0 (List.replicate 19 0) p with
  | error k => rw [hm] at h; cases h
  | ok okk =>
    obtain ⟨l, p1⟩ := okk
    have h1 := tellGo_ok hm hp
    rw [hm] at h
    simp only [Gz.Out.bind] at h
    split at h
    · injection h with hpp; injection hpp with _ h2; omega
    · cases h
theorem len_wide (l : List Nat) (sy ct : Nat) (h : l.length = ct) (h1 : sy ≤ 288) (h2 : sy ≤ ct) (h3 : ct ≤ sy + 32) : (Gz.wide (l.take sy) 288 ++ Gz.wide (l.drop sy) 32).length = 320 := by
  simp [Gz.wide]; omega
theorem lens_append {a b : List Nat} (ha : Lens a) (hb : Lens b) : Lens (a ++ b) := by
  intro i hi
  by_cases h : i < a.length
  · rw [List.getD, List.getElem?_append_left h]; exact ha i h
  · rw [List.getD, List.getElem?_append_right (by omega)]; exact hb (i - a.length) (by simp at hi; omega)
theorem lens_zeros (n : Nat) : Lens (List.replicate n 0) := by
  intro i hi; rw [List.getD, List.getElem?_replicate]; split <;> simp
theorem lens_wide (l : List Nat) (sy : Nat) (h : Lens l) : Lens (Gz.wide (l.take sy) 288 ++ Gz.wide (l.drop sy) 32) :=
  lens_append (lens_append (h.take sy) (lens_zeros _)) (lens_append (h.drop sy) (lens_zeros _))
theorem told_ok {d : List UInt8} {c : Gz.Code} {count p q : Nat} {l : List Nat} (h : Gz.told d c count p = .ok (l, q)) (hp : p ≤ 8 * d.length) : p ≤ q ∧ q ≤ 8 * d.length := by
  refine iter_inv (P := fun _ x => p ≤ x ∧ x ≤ 8 * d.length) (R := fun _ x => p ≤ x ∧ x ≤ 8 * d.length) ?_ ?_ (8 * d.length) [] p (by omega) ⟨Nat.le_refl _, hp⟩ l q h
  · intro l x l' y hl hst
    unfold Gz.toldStep at hst
    split at hst
    · cases hs : Gz.sym d c x with
      | error k => rw [hs] at hst; cases hst
      | ok okk =>
        obtain ⟨sy, p1⟩ := okk
        have h1 := sym_ok hs
        rw [hs] at hst
        simp only [Gz.Out.bind] at hst
        cases hr : Gz.run d sy p1 with
        | error k => rw [hr] at hst; cases hst
        | ok okk =>
          obtain ⟨z, p2⟩ := okk
          have h2 := run_ok hr h1.2
          rw [hr] at hst
          simp only at hst
          split at hst
          · cases hst
          · split at hst
            · cases hst
            · injection hst with hpp; injection hpp with h3 h4; omega
    · injection hst with hpp; injection hpp with h1 h2; cases h1
  · intro l x r y hl hst
    unfold Gz.toldStep at hst
    split at hst
    · cases hs : Gz.sym d c x with
      | error k => rw [hs] at hst; cases hst
      | ok okk =>
        obtain ⟨sy, p1⟩ := okk
        rw [hs] at hst
        simp only [Gz.Out.bind] at hst
        cases hr : Gz.run d sy p1 with
        | error k => rw [hr] at hst; cases hst
        | ok okk =>
          obtain ⟨z, p2⟩ := okk
          rw [hr] at hst
          simp only at hst
          split at hst
          · cases hst
          · split at hst
            · cases hst
            · injection hst with hpp; injection hpp with h1 h2; cases h1
    · injection hst with hpp; injection hpp with h1 h2; omega
theorem telling_ge {d : List UInt8} {n p q : Nat} {c : Gz.Code} (h : Gz.telling d n p = .ok (c, q)) (hp : p ≤ 8 * d.length) : p ≤ q := by
  unfold Gz.telling at h
  cases hm : Gz.tellGo d n 0 (List.replicate 19 0) p with
  | error k => rw [hm] at h; cases h
  | ok okk =>
    obtain ⟨l, p1⟩ := okk
    have h1 := tellGo_ok hm hp
    rw [hm] at h
    simp only [Gz.Out.bind] at h
    split at h
    · injection h with hpp; injection hpp with _ h2; omega
    · cases h
theorem codes_more {d : List UInt8} {p q : Nat} {t : Gz.Table} (h : Gz.codes d p = .ok (t, q)) : p < q ∧ q ≤ 8 * d.length := by
  unfold Gz.codes at h
  cases h1 : Gz.num d 5 p with
  | error k => rw [h1] at h; cases h
  | ok okk =>
    obtain ⟨a, p1⟩ := okk
    have e1 := num_ok h1
    rw [h1] at h
    simp only [Gz.Out.bind] at h
    cases h2 : Gz.num d 5 p1 with
    | error k => rw [h2] at h; cases h
    | ok okk =>
      obtain ⟨b, p2⟩ := okk
      have e2 := num_ok h2
      rw [h2] at h
      simp only at h
      cases h3 : Gz.num d 4 p2 with
      | error k => rw [h3] at h; cases h
      | ok okk =>
        obtain ⟨c, p3⟩ := okk
        have e3 := num_ok h3
        rw [h3] at h
        simp only at h
        split at h
        · cases h
        · cases h4 : Gz.telling d (c + 4) p3 with
          | error k => rw [h4] at h; cases h
          | ok okk =>
            obtain ⟨tc, p4⟩ := okk
            have e4 := telling_ok h4 e3.2
            have e5 := telling_ge h4 e3.2
            rw [h4] at h
            simp only at h
            cases h6 : Gz.told d tc (a + 257 + (b + 1)) p4 with
            | error k => rw [h6] at h; cases h
            | ok okk =>
              obtain ⟨l, p5⟩ := okk
              have e6 := told_ok h6 e4
              rw [h6] at h
              simp only at h
              split at h
              · injection h with hpp; injection hpp with _ h7; omega
              · cases h
theorem syms_more {d : List UInt8} {t : Gz.Table} {lim p q : Nat} {out o : List UInt8} (h : Gz.syms d t lim out p = .ok (o, q)) (hp : p ≤ 8 * d.length) : p < q ∧ q ≤ 8 * d.length := by
  have key : ∀ (out : List UInt8) (x : Nat) (z : List UInt8 ⊕ List UInt8) (y : Nat), x ≤ 8 * d.length → Gz.symsStep d t lim out x = .ok (z, y) → x < y ∧ y ≤ 8 * d.length := by
    intro out x z y hx hst
    unfold Gz.symsStep at hst
    cases hs : Gz.sym d t.syms x with
    | error k => rw [hs] at hst; cases hst
    | ok okk =>
      obtain ⟨sy, p1⟩ := okk
      have h1 := sym_ok hs
      rw [hs] at hst
      simp only [Gz.Out.bind] at hst
      cases ho : Gz.obey d t lim sy out p1 with
      | error k => rw [ho] at hst; cases hst
      | ok okk =>
        obtain ⟨v, p2⟩ := okk
        have h2 := obey_ok ho h1.2
        rw [ho] at hst
        injection hst with hpp; injection hpp with _ h3; omega
  unfold Gz.syms at h
  rw [Gz.iter_eq] at h
  cases hst : Gz.symsStep d t lim out p with
  | error k => rw [hst] at h; cases h
  | ok okk =>
    obtain ⟨z, y⟩ := okk
    have hk := key out p z y hp hst
    rw [hst] at h
    cases z with
    | inr r => injection h with hpp; injection hpp with _ h2; omega
    | inl o2 =>
      simp only at h
      rw [if_pos hk] at h
      have := iter_inv (P := fun _ x => y ≤ x ∧ x ≤ 8 * d.length) (R := fun _ x => y ≤ x ∧ x ≤ 8 * d.length)
        (fun s x s' q hx hst => by have := key s x _ q hx.2 hst; omega) (fun s x r q hx hst => by have := key s x _ q hx.2 hst; omega) (8 * d.length) o2 y (by omega) ⟨Nat.le_refl _, hk.2⟩ o q h
      omega
theorem stored_more {d : List UInt8} {lim p q : Nat} {out o : List UInt8} (h : Gz.stored d lim out p = .ok (o, q)) : p < q ∧ q ≤ 8 * d.length := by
  unfold Gz.stored at h
  cases h1 : Gz.num d 16 (8 * ((p + 7) / 8)) with
  | error k => rw [h1] at h; cases h
  | ok okk =>
    obtain ⟨n, p1⟩ := okk
    have e1 := num_ok h1
    rw [h1] at h
    simp only [Gz.Out.bind] at h
    cases h2 : Gz.num d 16 p1 with
    | error k => rw [h2] at h; cases h
    | ok okk =>
      obtain ⟨m, p2⟩ := okk
      have e2 := num_ok h2
      rw [h2] at h
      simp only at h
      split at h
      · cases h
      · have := bytes_ok h e2.2; omega
end Go.Proofs.YtjjjlilflbddoaaGreatDoor
