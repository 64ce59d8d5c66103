/-
  The plain mathematics of the reader: packed data as a function of bytes. Nothing of the dump is imported.
-/
namespace Go.Proofs.YtjjjlilflbddoaaDoor
namespace Gz

/-- What a reading part comes to: a value and the bit behind it, or the number of what was met (2: the bits do not suffice). -/
abbrev Out (α : Type) : Type := Except Nat (α × Nat)

def bitv (d : List UInt8) (k : Nat) : Nat := ((d.getD (k / 8) 0).toNat / 2 ^ (k % 8)) % 2

/-- The number of the n bits from 'at' on, the lowest first. -/
def val (d : List UInt8) (p : Nat) : Nat → Nat
  | 0 => 0
  | n + 1 => val d p n + bitv d (p + n) * 2 ^ n

/-- A number of n bits. -/
def num (d : List UInt8) (n p : Nat) : Out Nat := if p + n ≤ 8 * d.length then .ok ((val d p n), (p + n)) else .error 2

structure Code where
  count : List Nat
  symbols : List Nat
  longest : Nat

def symGo (d : List UInt8) (c : Code) : Nat → Nat → Nat → Nat → Nat → Nat → Out Nat
  | 0, _, _, _, _, _ => .error 6
  | m + 1, n, taken, first, shorter, p =>
    if p < 8 * d.length then
      if 2 * taken + bitv d p < 2 * first + c.count.getD n 0 then .ok ((c.symbols.getD (shorter + (2 * taken + bitv d p) - 2 * first) 0), (p + 1))
      else symGo d c m (n + 1) (2 * taken + bitv d p) (2 * first + c.count.getD n 0) (shorter + c.count.getD n 0) (p + 1)
    else .error 2

def sym (d : List UInt8) (c : Code) (p : Nat) : Out Nat := symGo d c c.longest 1 0 0 0 p

def Out.bind {α β : Type} (r : Out α) (f : α → Nat → Out β) : Out β :=
  match r with
  | .ok (a, p) => f a p
  | .error k => .error k

def lenBits (s : Nat) : Nat := if s ≤ 264 ∨ s = 285 then 0 else (s - 261) / 4
def distBits (s : Nat) : Nat := if s ≤ 3 then 0 else s / 2 - 1
def lenFrom : List Nat := [3, 4, 5, 6, 7, 8, 9, 10, 11, 13, 15, 17, 19, 23, 27, 31, 35, 43, 51, 59, 67, 83, 99, 115, 131, 163, 195, 227, 258]
def distFrom : List Nat := [1, 2, 3, 4, 5, 7, 9, 13, 17, 25, 33, 49, 65, 97, 129, 193, 257, 385, 513, 769, 1025, 1537, 2049, 3073, 4097, 6145, 8193, 12289, 16385, 24577]

structure Table where
  syms : Code
  dists : Code

def dist (d : List UInt8) (c : Code) (p : Nat) : Out Nat :=
  (sym d c p).bind fun s p1 => if 29 < s then .error 6 else (num d (distBits s) p1).bind fun v p2 => .ok ((distFrom.getD s 0 + v), p2)

/-- n bytes more, each a copy of the one so far back; none beyond the limit. -/
def copyGo (lim far : Nat) : Nat → List UInt8 → Option (List UInt8)
  | 0, out => some out
  | n + 1, out => if lim ≤ out.length then none else copyGo lim far n (out ++ [out.getD (out.length - far) 0])

def rep (d : List UInt8) (t : Table) (lim s : Nat) (out : List UInt8) (p : Nat) : Out (List UInt8) :=
  (num d (lenBits s) p).bind fun v p1 => (dist d t.dists p1).bind fun far p2 =>
    if out.length < far then .error 7 else
    match copyGo lim far (lenFrom.getD (s - 257) 0 + v) out with
    | none => .error 8
    | some o => .ok (o, p2)

/-- What a symbol says: the bytes put out so far, and whether the block has ended. -/
def obey (d : List UInt8) (t : Table) (lim s : Nat) (out : List UInt8) (p : Nat) : Out (List UInt8 × Bool) :=
  if s < 256 then (if lim ≤ out.length then .error 8 else .ok ((out ++ [UInt8.ofNat s], false), p))
  else if s = 256 then .ok ((out, true), p)
  else if s ≤ 285 then (rep d t lim s out p).bind fun o p1 => .ok ((o, false), p1)
  else .error 6

/-- Rounds that each go on by a bit at least, up to N; n: how many at most. -/
def iterN {σ ρ : Type} (N : Nat) (step : σ → Nat → Out (σ ⊕ ρ)) : Nat → σ → Nat → Out ρ
  | 0, s, p => match step s p with
    | .error k => .error k
    | .ok (.inr r, q) => .ok (r, q)
    | .ok (.inl _, _) => .error 99
  | n + 1, s, p => match step s p with
    | .error k => .error k
    | .ok (.inr r, q) => .ok (r, q)
    | .ok (.inl s', q) => if p < q ∧ q ≤ N then iterN N step n s' q else .error 99
/-- Rounds that each go on by a bit at least, up to N. -/
def iter {σ ρ : Type} (N : Nat) (step : σ → Nat → Out (σ ⊕ ρ)) (s : σ) (p : Nat) : Out ρ := iterN N step (N - p) s p
theorem iterN_any {σ ρ : Type} (N : Nat) (step : σ → Nat → Out (σ ⊕ ρ)) : ∀ (n m : Nat) (s : σ) (p : Nat), N - p ≤ n → N - p ≤ m → iterN N step n s p = iterN N step m s p
  | 0, 0, _, _, _, _ => rfl
  | 0, m + 1, s, p, h, _ => by
    rw [iterN, iterN]
    split <;> try rfl
    rw [if_neg (by omega)]
  | n + 1, 0, s, p, _, h => by
    rw [iterN, iterN]
    split <;> try rfl
    rw [if_neg (by omega)]
  | n + 1, m + 1, s, p, h, h' => by
    rw [iterN, iterN]
    split <;> try rfl
    split
    · exact iterN_any N step n m _ _ (by omega) (by omega)
    · rfl
theorem iter_eq {σ ρ : Type} (N : Nat) (step : σ → Nat → Out (σ ⊕ ρ)) (s : σ) (p : Nat) : iter N step s p = match step s p with
    | .error k => .error k
    | .ok (.inr r, q) => .ok (r, q)
    | .ok (.inl s', q) => if p < q ∧ q ≤ N then iter N step s' q else .error 99 := by
  unfold iter
  rw [iterN_any N step (N - p) (N - p + 1) s p (Nat.le_refl _) (by omega), iterN]
  split <;> try rfl
  split
  · exact iterN_any N step _ _ _ _ (by omega) (Nat.le_refl _)
  · rfl

def symsStep (d : List UInt8) (t : Table) (lim : Nat) (out : List UInt8) (p : Nat) : Out (List UInt8 ⊕ List UInt8) :=
  (sym d t.syms p).bind fun s p1 => (obey d t lim s out p1).bind fun o p2 => .ok ((if o.2 then .inr o.1 else .inl o.1), p2)

def syms (d : List UInt8) (t : Table) (lim : Nat) (out : List UInt8) (p : Nat) : Out (List UInt8) := iter (8 * d.length) (symsStep d t lim) out p

/-- n bytes of a block of kind 0. -/
def bytes (d : List UInt8) (lim : Nat) : Nat → List UInt8 → Nat → Out (List UInt8)
  | 0, out, p => .ok (out, p)
  | n + 1, out, p => (num d 8 p).bind fun v p1 => if lim ≤ out.length then .error 8 else bytes d lim n (out ++ [UInt8.ofNat v]) p1

def stored (d : List UInt8) (lim : Nat) (out : List UInt8) (p : Nat) : Out (List UInt8) :=
  (num d 16 (8 * ((p + 7) / 8))).bind fun n p1 => (num d 16 p1).bind fun m p2 => if m + n ≠ 65535 then .error 4 else bytes d lim n out p2

/-! The codes. -/

def share (l : List Nat) : Nat := (l.map fun n => if 0 < n then 32768 / 2 ^ n else 0).sum
def complete (l : List Nat) : Bool := share l == 32768

def counts (l : List Nat) : List Nat := l.foldl (fun c n => if 0 < n then c.set n (c.getD n 0 + 1) else c) (List.replicate 16 0)
def places (c : List Nat) : List Nat := (List.range 17).map fun i => (c.take i).sum
def fillStep (sp : List Nat × List Nat) (x : Nat × Nat) : List Nat × List Nat :=
  if 0 < x.2 then (sp.1.set (sp.2.getD x.2 0) x.1, sp.2.set x.2 (sp.2.getD x.2 0 + 1)) else sp
def fill (l : List Nat) : List Nat × List Nat :=
  ((List.range l.length).zip l).foldl fillStep (List.replicate (counts l).sum 0, places (counts l))
def makeCode (l : List Nat) : Code := { count := counts l, symbols := (fill l).1, longest := l.foldl max 0 }

def fixedLen (i : Nat) : Nat := if i ≤ 143 then 8 else if i ≤ 255 then 9 else if i ≤ 279 then 7 else if i < 288 then 8 else 5
def makeTable (l : List Nat) : Table := { syms := makeCode (l.take 288), dists := makeCode (l.drop 288) }
def fixed : Table := makeTable ((List.range 320).map fixedLen)

def order : List Nat := [16, 17, 18, 0, 8, 7, 9, 6, 10, 5, 11, 4, 12, 3, 13, 2, 14, 1, 15]

/-- n numbers of 3 bits, each into its place. -/
def tellGo (d : List UInt8) : Nat → Nat → List Nat → Nat → Out (List Nat)
  | 0, _, l, p => .ok (l, p)
  | n + 1, i, l, p => (num d 3 p).bind fun v p1 => tellGo d n (i + 1) (l.set (order.getD i 0) v) p1

def telling (d : List UInt8) (n p : Nat) : Out Code :=
  (tellGo d n 0 (List.replicate 19 0) p).bind fun l p1 => if complete l then .ok ((makeCode l), p1) else .error 5

/-- Which length a symbol tells (16: that of the last one), and how often. -/
def run (d : List UInt8) (s p : Nat) : Out (Nat × Nat) :=
  if s = 16 then (num d 2 p).bind fun v p1 => .ok ((0, v + 3), p1)
  else if s = 17 then (num d 3 p).bind fun v p1 => .ok ((0, v + 3), p1)
  else if s = 18 then (num d 7 p).bind fun v p1 => .ok ((0, v + 11), p1)
  else .ok ((s, 1), p)

def toldStep (d : List UInt8) (c : Code) (count : Nat) (told : List Nat) (p : Nat) : Out (List Nat ⊕ List Nat) :=
  if told.length < count then
    (sym d c p).bind fun s p1 => (run d s p1).bind fun lt p2 =>
      if s = 16 ∧ told.length = 0 then .error 5
      else if count < told.length + lt.2 then .error 5
      else .ok ((.inl (told ++ List.replicate lt.2 (if s = 16 then told.getLastD 0 else lt.1))), p2)
  else .ok ((.inr told), p)

def told (d : List UInt8) (c : Code) (count p : Nat) : Out (List Nat) := iter (8 * d.length) (toldStep d c count) [] p

def check (l : List Nat) : Bool := (l.getD 256 0 != 0) && complete (l.take 288) && (complete (l.drop 288) || decide ((l.drop 288).sum ≤ 1))

def wide (l : List Nat) (n : Nat) : List Nat := l ++ List.replicate (n - l.length) 0

def codes (d : List UInt8) (p : Nat) : Out Table :=
  (num d 5 p).bind fun a p1 => (num d 5 p1).bind fun b p2 => (num d 4 p2).bind fun c p3 =>
    if 286 < a + 257 ∨ 30 < b + 1 then .error 5 else
    (telling d (c + 4) p3).bind fun tc p4 => (told d tc (a + 257 + (b + 1)) p4).bind fun l p5 =>
      let ls := wide (l.take (a + 257)) 288 ++ wide (l.drop (a + 257)) 32
      if check ls then .ok ((makeTable ls), p5) else .error 5

/-! The blocks. -/

/-- Where the reading stands: before a block's head; before the sizes of a block of kind 0; before the codes; at the end; or within symbols. -/
abbrev Place : Type := (Bool × Bool) ⊕ Table

structure St where
  place : Place
  last : Bool
  out : List UInt8

def ended (last : Bool) : Place := if last then .inl (true, true) else .inl (false, false)

def goOn (d : List UInt8) (lim : Nat) (s : St) (p : Nat) : Out (St ⊕ List UInt8) :=
  match s.place with
  | .inl (false, false) => (num d 1 p).bind fun a p1 => (num d 2 p1).bind fun k p2 =>
      if k = 0 then .ok ((.inl { s with place := .inl (false, true), last := a == 1 }), p2)
      else if k = 1 then .ok ((.inl { s with place := .inr fixed, last := a == 1 }), p2)
      else if k = 2 then .ok ((.inl { s with place := .inl (true, false), last := a == 1 }), p2)
      else .error 3
  | .inl (false, true) => (stored d lim s.out p).bind fun o p1 => .ok ((.inl { s with place := ended s.last, out := o }), p1)
  | .inl (true, false) => (codes d p).bind fun t p1 => (syms d t lim s.out p1).bind fun o p2 => .ok ((.inl { s with place := ended s.last, out := o }), p2)
  | .inr t => (syms d t lim s.out p).bind fun o p1 => .ok ((.inl { s with place := ended s.last, out := o }), p1)
  | .inl (true, true) => .ok ((.inr s.out), p)

def read (d : List UInt8) (lim : Nat) : Out (List UInt8) := iter (8 * d.length) (goOn d lim) { place := .inl (false, false), last := false, out := [] } 0

/-- P4: what is put out, how many bytes were begun, the error's number. -/
def inflate (d : List UInt8) (limit : Int) : List UInt8 × Nat × Nat :=
  if 4000 < d.length then ([], 0, 1)
  else if limit < 0 ∨ 6000 < limit then ([], 0, 11)
  else match read d limit.toNat with
    | .ok (o, p) => (o, (p + 7) / 8, 0)
    | .error k => ([], 0, k)

end Gz
end Go.Proofs.YtjjjlilflbddoaaDoor
