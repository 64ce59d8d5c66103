import Derived.Test.YtjjjlilflbddoaaDoorGPkC
/-
  What was written is read: symbols. Nothing of the dump is imported.
-/
namespace Go.Proofs.YtjjjlilflbddoaaDoor
namespace Pk

theorem down_next (tab : List Nat) (n : Nat) : ∀ k, downTo tab n k < k → n < tab.getD (downTo tab n k + 1) 0
  | 0, h => by omega
  | k + 1, h => by
    unfold downTo at h ⊢
    split at h
    · rename_i h1
      rw [if_pos h1]
      by_cases e : downTo tab n k = k
      · rw [e]; exact h1
      · have := down_le tab n k
        exact down_next tab n k (by omega)
    · omega
theorem far_tab : ∀ j, j < 29 → Gz.distFrom.getD (j + 1) 0 = Gz.distFrom.getD j 0 + 2 ^ Gz.distBits j := by decide
theorem far_more (n : Nat) (h1 : 1 ≤ n) (h2 : n ≤ 30000) : Gz.distFrom.getD (farSym n) 0 ≤ n ∧ n - Gz.distFrom.getD (farSym n) 0 < 2 ^ Gz.distBits (farSym n) := by
  have h3 : Gz.distFrom.getD (farSym n) 0 ≤ n := down_at Gz.distFrom n h1 29
  refine ⟨h3, ?_⟩
  have h4 := farSym_le n
  by_cases e : farSym n = 29
  · rw [e] at h3 ⊢
    have : Gz.distFrom.getD 29 0 = 24577 := rfl
    have : Gz.distBits 29 = 13 := rfl
    rw [this]
    omega
  · have h5 := down_next Gz.distFrom n 29 (by unfold farSym at *; omega)
    have h6 := far_tab (farSym n) (by omega)
    have h7 : n < Gz.distFrom.getD (farSym n + 1) 0 := h5
    omega
theorem len_tab : ∀ j, j < 27 → Gz.lenFrom.getD (j + 1) 0 = Gz.lenFrom.getD j 0 + 2 ^ Gz.lenBits (257 + j) := by decide
theorem len_more (n : Nat) (h1 : 3 ≤ n) (h2 : n ≤ 258) : Gz.lenFrom.getD (lenSym n - 257) 0 ≤ n ∧ n - Gz.lenFrom.getD (lenSym n - 257) 0 < 2 ^ Gz.lenBits (lenSym n) := by
  have h3 : Gz.lenFrom.getD (downTo Gz.lenFrom n 28) 0 ≤ n := down_at Gz.lenFrom n h1 28
  have h4 := down_le Gz.lenFrom n 28
  unfold lenSym
  rw [show 257 + downTo Gz.lenFrom n 28 - 257 = downTo Gz.lenFrom n 28 by omega]
  have h5 := down_next Gz.lenFrom n 28
  generalize downTo Gz.lenFrom n 28 = j at *
  refine ⟨h3, ?_⟩
  by_cases e : j = 28
  · subst e
    have e1 : Gz.lenFrom.getD 28 0 = 258 := rfl
    have e2 : Gz.lenBits (257 + 28) = 0 := rfl
    rw [e1] at h3 ⊢
    rw [e2]
    omega
  · by_cases e : j = 27
    · subst e
      have e1 : Gz.lenFrom.getD 27 0 = 227 := rfl
      have e2 : Gz.lenBits (257 + 27) = 5 := rfl
      rw [e1] at h3 ⊢
      rw [e2]
      omega
    · have h6 := len_tab j (by omega)
      have h7 := h5 (by omega)
      omega

/-- Lengths that suffice for tokens. -/
structure Suf (ls lf : List Nat) (ts : List (Nat × Nat)) : Prop where
  l1 : Lens ls
  l2 : Lens lf
  s1 : Gz.share ls ≤ 32768
  s2 : Gz.share lf ≤ 32768
  n1 : 286 ≤ ls.length
  n2 : 30 ≤ lf.length
  sy : ∀ t ∈ ts, 0 < ls.getD (symOf t) 0
  fa : ∀ t ∈ ts, t.2 ≠ 0 → 0 < lf.getD (farSym t.2) 0
  en : 0 < ls.getD 256 0
theorem wbits_size {l : List Nat} {s : Nat} (h : s < l.length) (h0 : 0 < l.getD s 0) : (wbits (words l) s).length = l.getD s 0 := by
  unfold wbits
  rw [word_len, words_at l s h h0]
/-- A token, as it is to be read. -/
def RTok (d : List UInt8) (q : Nat) (t : Nat × Nat) : Prop := (t.2 = 0 → t.1 = (d.getD q 0).toNat ∧ q < d.length) ∧ (t.2 ≠ 0 → 3 ≤ t.1 ∧ t.1 ≤ 258 ∧ t.2 ≤ q ∧ q + t.1 ≤ d.length ∧ t.2 ≤ 30000 ∧ ∀ k, k < t.1 → d.getD (q - t.2 + k) 0 = d.getD (q + k) 0)
theorem symOf_lt {t : Nat × Nat} (h : t.2 = 0 → t.1 < 256) : symOf t < 286 := by
  unfold symOf
  split
  · rename_i e; have := h e; omega
  · have := (lenSym_le t.1).2; omega

theorem take_snoc8 (d : List UInt8) (q : Nat) (h : q < d.length) : d.take q ++ [d.getD q 0] = d.take (q + 1) := by
  rw [List.take_add_one, List.getD, List.getElem?_eq_getElem h]; rfl
theorem copy_back (d : List UInt8) (lim far : Nat) (h0 : 0 < far) (hl : d.length ≤ lim) : ∀ (n q : Nat) (x : Rf.D), x.st = 0 → x.out = d.take q → far ≤ q → q + n ≤ d.length → (∀ k, k < n → d.getD (q - far + k) 0 = d.getD (q + k) 0) →
    Rf.copyN lim far n x = { x with out := d.take (q + n) }
  | 0, q, x, _, ho, _, _, _ => by rw [Rf.copyN, Nat.add_zero, ← ho]
  | n + 1, q, x, hst, ho, hf, hq, hk => by
    have hol : x.out.length = q := by rw [ho, List.length_take]; omega
    have hp : Rf.put lim x (x.out.getD (x.out.length - far) 0) = { x with out := d.take (q + 1) } := by
      have hb := hk 0 (by omega)
      have hg : x.out.getD (q - far) 0 = d.getD (q - far) 0 := by rw [ho, List.getD, List.getD, List.getElem?_take_of_lt (by omega)]
      rw [Nat.add_zero, Nat.add_zero] at hb
      unfold Rf.put
      rw [if_neg (by omega), hol, hg, hb, ho, take_snoc8 d q (by omega)]
    rw [Rf.copyN, if_pos hst, hp, copy_back d lim far h0 hl n (q + 1) { x with out := d.take (q + 1) } hst rfl (by omega) (by omega) (fun k hk2 => by
      have := hk (k + 1) (by omega)
      rw [show q + 1 - far + k = q - far + (k + 1) by omega, this]
      congr 1
      omega), show q + 1 + n = q + (n + 1) by omega]

theorem step_back {bs : List Nat} (hb : Bits bs) {ls lf : List Nat} {ts : List (Nat × Nat)} (H : Suf ls lf ts) {t : Nat × Nat} (hm : t ∈ ts) {d : List UInt8} {q lim : Nat} (hl : d.length ≤ lim) (ht : RTok d q t) (x : Rf.D) (h0 : x.st = 0) (ho : x.out = d.take q) (hh : Here bs x.pos (tokBits ls lf t)) :
    Rf.symStep (toBytes bs) lim ⟨Gz.makeCode ls, Gz.makeCode lf⟩ x = ({ x with pos := x.pos + (tokBits ls lf t).length, out := d.take (q + if t.2 = 0 then 1 else t.1), toks := x.toks ++ [t] }, false) := by
  obtain ⟨n, f⟩ := t
  have hs0 := H.sy _ hm
  have hsl := symOf_lt (t := (n, f)) (fun e => by rw [(ht.1 e).1]; exact UInt8.toNat_lt _)
  have hn1 := H.n1
  have hsz := wbits_size (l := ls) (s := symOf (n, f)) (by omega) hs0
  have hw : Here bs x.pos (wbits (words ls) (symOf (n, f))) := hh.left
  have hsym := sym_back hb H.l1 H.s1 (s := symOf (n, f)) (by omega) hs0 hw
  by_cases e : f = 0
  · subst e
    obtain ⟨e1, e2⟩ := ht.1 rfl
    have e1 : n = (d.getD q 0).toNat := e1
    have hn : n < 256 := by rw [e1]; exact UInt8.toNat_lt _
    have es : symOf (n, 0) = n := rfl
    have et : (tokBits ls lf (n, 0)).length = ls.getD n 0 := by
      unfold tokBits
      rw [if_pos rfl, List.append_nil]
      exact hsz
    rw [es] at hsym
    unfold Rf.symStep
    rw [hsym]
    simp only []
    rw [if_neg (by omega), if_pos hn]
    have hu : UInt8.ofNat n = d.getD q 0 := by rw [e1]; exact UInt8.ofNat_toNat
    unfold Rf.put
    rw [if_neg (by show ¬ lim ≤ x.out.length; rw [ho, List.length_take]; omega), et]
    show ({ x with pos := x.pos + ls.getD n 0, out := x.out ++ [UInt8.ofNat n], toks := x.toks ++ [(n, 0)] }, false) = _
    rw [hu, ho, take_snoc8 d q e2]
    rfl
  · obtain ⟨g1, g2, g3, g4, g5, g6⟩ := ht.2 e
    have g1 : 3 ≤ n := g1
    have g2 : n ≤ 258 := g2
    have g3 : f ≤ q := g3
    have g4 : q + n ≤ d.length := g4
    have g5 : f ≤ 30000 := g5
    have hf0 := H.fa _ hm e
    have hn2 := H.n2
    have hfl := farSym_le f
    have es : symOf (n, f) = lenSym n := by unfold symOf; rw [if_neg e]
    have hls := lenSym_le n
    have hr : Here bs (x.pos + ls.getD (lenSym n) 0) (farBits lf (n, f)) := by
      have := hh.right
      rw [hsz, es, if_neg e] at this
      exact this
    have hlm := len_more n g1 g2
    have hfm := far_more f (by omega) g5
    have hnum := num_back hb (hr.left) hlm.2
    have hr2 := hr.right
    rw [num_len] at hr2
    have hfsz := wbits_size (l := lf) (s := farSym f) (by omega) hf0
    have hfs := sym_back hb H.l2 H.s2 (s := farSym f) (by omega) hf0 hr2.left
    have hr3 := hr2.right
    rw [hfsz] at hr3
    have hnum2 := num_back hb hr3 hfm.2
    have hld : Rf.lenDist (toBytes bs) (Gz.makeCode lf) (lenSym n) (x.pos + ls.getD (lenSym n) 0) = .ok ((n, f), x.pos + (tokBits ls lf (n, f)).length) := by
      have et : (tokBits ls lf (n, f)).length = ls.getD (lenSym n) 0 + (Gz.lenBits (lenSym n) + (lf.getD (farSym f) 0 + Gz.distBits (farSym f))) := by
        unfold tokBits farBits
        rw [if_neg e, List.length_append, List.length_append, List.length_append, num_len, num_len, hsz, hfsz, es]
      rw [et]
      unfold Rf.lenDist Gz.dist
      rw [hnum]
      simp only [Gz.Out.bind]
      rw [hfs]
      simp only []
      rw [if_neg (by omega), hnum2]
      simp only []
      rw [show Gz.lenFrom.getD (lenSym n - 257) 0 + (n - Gz.lenFrom.getD (lenSym n - 257) 0) = n by omega, show Gz.distFrom.getD (farSym f) 0 + (f - Gz.distFrom.getD (farSym f) 0) = f by omega]
      congr 2
      omega
    rw [es] at hsym
    unfold Rf.symStep
    rw [hsym]
    simp only []
    rw [if_neg (by omega), if_neg (by omega)]
    unfold Rf.copied
    rw [if_neg (by omega)]
    simp only [hld]
    rw [if_neg (by rw [ho, List.length_take]; omega), copy_back d lim f (by omega) hl n q { x with pos := x.pos + (tokBits ls lf (n, f)).length, toks := x.toks ++ [(n, f)] } h0 ho g3 g4 g6, if_neg e]

/-- All the symbols of a block. -/
theorem syms_back {bs : List Nat} (hb : Bits bs) {ls lf : List Nat} {ts : List (Nat × Nat)} (H : Suf ls lf ts) {d : List UInt8} {lim : Nat} (hl : d.length ≤ lim) (hd : d.length ≤ 30000) : ∀ (n q : Nat) (x : Rf.D), x.st = 0 → x.out = d.take q → q ≤ d.length → (∀ t ∈ toksFrom d q, t ∈ ts) → Here bs x.pos (symsBits ls lf (toksFrom d q)) → (toksFrom d q).length < n →
    Rf.symsN (toBytes bs) lim ⟨Gz.makeCode ls, Gz.makeCode lf⟩ n x = { x with pos := x.pos + (symsBits ls lf (toksFrom d q)).length, out := d, toks := x.toks ++ toksFrom d q }
  | 0, q, x, _, _, _, _, _, h => by omega
  | n + 1, q, x, h0, ho, hq, hts, hh, hlen => by
    have hn1 := H.n1
    by_cases hlt : q < d.length
    · have htf := toksFrom_at hlt
      have hadv := adv_le d q hlt
      obtain ⟨k1, k2⟩ := tok_ok d q
      have hrt : RTok d q (tok d q) := ⟨fun e => ⟨k1.lit e, hlt⟩, fun e => by
        obtain ⟨a1, a2, a3, a4, a5⟩ := k1.far e
        exact ⟨a1, a2, a3, a4, by omega, a5⟩⟩
      have hm : tok d q ∈ ts := hts _ (by rw [htf]; simp)
      have hsp : symsBits ls lf (toksFrom d q) = tokBits ls lf (tok d q) ++ symsBits ls lf (toksFrom d (q + adv d q)) := by
        unfold symsBits
        rw [htf, List.flatMap_cons, List.append_assoc]
      rw [hsp] at hh
      have hst := step_back hb H hm hl hrt x h0 ho hh.left
      rw [← k2] at hst
      rw [htf, List.length_cons] at hlen
      have ih := syms_back hb H hl hd n (q + adv d q) { x with pos := x.pos + (tokBits ls lf (tok d q)).length, out := d.take (q + adv d q), toks := x.toks ++ [tok d q] } h0 rfl hadv (fun t ht => hts t (by rw [htf]; exact List.mem_cons_of_mem _ ht)) hh.right (by omega)
      have e1 : Rf.symsN (toBytes bs) lim ⟨Gz.makeCode ls, Gz.makeCode lf⟩ (n + 1) x = Rf.symsN (toBytes bs) lim ⟨Gz.makeCode ls, Gz.makeCode lf⟩ n { x with pos := x.pos + (tokBits ls lf (tok d q)).length, out := d.take (q + adv d q), toks := x.toks ++ [tok d q] } := by
        rw [Rf.symsN, if_pos h0, hst]
        simp
      rw [e1, ih, hsp, List.length_append, htf]
      simp only [List.append_assoc, List.singleton_append, Nat.add_assoc]
    · have hqe : q = d.length := by omega
      have htf : toksFrom d q = [] := toksFrom_end (by omega)
      rw [htf] at hh ⊢
      have hsb : symsBits ls lf [] = wbits (words ls) 256 := rfl
      rw [hsb] at hh ⊢
      have hsym := sym_back hb H.l1 H.s1 (s := 256) (by omega) H.en hh
      have hsz := wbits_size (l := ls) (s := 256) (by omega) H.en
      have hst : Rf.symStep (toBytes bs) lim ⟨Gz.makeCode ls, Gz.makeCode lf⟩ x = ({ x with pos := x.pos + ls.getD 256 0 }, true) := by
        unfold Rf.symStep
        rw [hsym]
        rfl
      rw [Rf.symsN, if_pos h0, hst, if_pos rfl, hsz, List.append_nil]
      have : x.out = d := by rw [ho, hqe, List.take_length]
      rw [← this]
theorem tok_pos {ls lf : List Nat} {ts : List (Nat × Nat)} (H : Suf ls lf ts) (hlt : ∀ t ∈ ts, symOf t < 286) : ∀ us : List (Nat × Nat), (∀ t ∈ us, t ∈ ts) → us.length ≤ (us.flatMap (tokBits ls lf)).length
  | [], _ => Nat.le_refl _
  | t :: us, h => by
    have ih := tok_pos H hlt us (fun s hs => h s (List.mem_cons_of_mem _ hs))
    have hm := h t (by simp)
    have h1 := wbits_size (l := ls) (s := symOf t) (by have := hlt t hm; have := H.n1; omega) (H.sy t hm)
    have h2 := H.sy t hm
    rw [List.flatMap_cons, List.length_append, List.length_cons]
    unfold tokBits at ih ⊢
    rw [List.length_append, h1]
    omega
end Pk
end Go.Proofs.YtjjjlilflbddoaaDoor
/-
  Lengths told by symbols, and told back. Nothing of the dump is imported.
-/
namespace Go.Proofs.YtjjjlilflbddoaaDoor
namespace Pk

def tBits (s : Nat) : Nat := if s = 16 then 2 else if s = 17 then 3 else if s = 18 then 7 else 0
def tLeast (s : Nat) : Nat := if s = 16 then 3 else if s = 17 then 3 else if s = 18 then 11 else 1
/-- How many are the same as the first one. -/
def sameN (l : Nat) : List Nat → Nat
  | [] => 0
  | x :: r => if x = l then sameN l r + 1 else 0
def tSym (l same : Nat) (again : Bool) : Nat := if l = 0 ∧ 11 ≤ same then 18 else if l = 0 ∧ 3 ≤ same then 17 else if again = true ∧ 3 ≤ same then 16 else l
/-- The first telling of a list: its symbol, and how many it tells. -/
def tOne (l : Nat) (r : List Nat) (bf : Option Nat) : Nat := tSym l (sameN l (l :: r)) (bf == some l)
def tMany (l : Nat) (r : List Nat) (bf : Option Nat) : Nat := min (sameN l (l :: r)) (tLeast (tOne l r bf) + 2 ^ tBits (tOne l r bf) - 1)
def tellN : Nat → List Nat → Option Nat → List (Nat × Nat)
  | 0, _, _ => []
  | _ + 1, [], _ => []
  | n + 1, l :: r, bf => (tOne l r bf, tMany l r bf - tLeast (tOne l r bf)) :: tellN n ((l :: r).drop (tMany l r bf)) (some l)
def tells (l : List Nat) : List (Nat × Nat) := tellN l.length l none

theorem same_le (l : Nat) : ∀ r : List Nat, sameN l r ≤ r.length
  | [] => Nat.le_refl _
  | x :: r => by
    have := same_le l r
    unfold sameN
    rw [List.length_cons]
    split <;> omega
theorem same_take (l : Nat) : ∀ (r : List Nat) (k : Nat), k ≤ sameN l r → r.take k = List.replicate k l
  | _, 0, _ => by simp
  | [], k + 1, h => by simp [sameN] at h
  | x :: r, k + 1, h => by
    unfold sameN at h
    split at h
    · rename_i e
      rw [List.take_succ_cons, List.replicate_succ, same_take l r k (by omega), e]
    · omega
theorem same_cons (l : Nat) (r : List Nat) : 1 ≤ sameN l (l :: r) := by unfold sameN; rw [if_pos rfl]; omega
theorem tLeast_pos (s : Nat) : 1 ≤ tLeast s := by unfold tLeast; split <;> (try split) <;> (try split) <;> omega
theorem tOne_cases (l : Nat) (r : List Nat) (bf : Option Nat) : (tOne l r bf = l ∨ (tOne l r bf = 18 ∧ l = 0 ∧ 11 ≤ sameN l (l :: r)) ∨ (tOne l r bf = 17 ∧ l = 0 ∧ 3 ≤ sameN l (l :: r)) ∨ (tOne l r bf = 16 ∧ bf = some l ∧ 3 ≤ sameN l (l :: r))) := by
  unfold tOne tSym
  split
  · rename_i h; exact .inr (.inl ⟨rfl, h.1, h.2⟩)
  · split
    · rename_i h; exact .inr (.inr (.inl ⟨rfl, h.1, h.2⟩))
    · split
      · rename_i h; exact .inr (.inr (.inr ⟨rfl, by simpa using h.1, h.2⟩))
      · exact .inl rfl
theorem tMany_ok (l : Nat) (r : List Nat) (bf : Option Nat) (hl : l ≤ 15) : tLeast (tOne l r bf) ≤ tMany l r bf ∧ tMany l r bf ≤ sameN l (l :: r) ∧ tMany l r bf - tLeast (tOne l r bf) < 2 ^ tBits (tOne l r bf) := by
  have h1 := same_cons l r
  have h2 : tLeast (tOne l r bf) ≤ sameN l (l :: r) := by
    rcases tOne_cases l r bf with h | ⟨h, _, h3⟩ | ⟨h, _, h3⟩ | ⟨h, _, h3⟩
    · rw [h]; unfold tLeast; rw [if_neg (by omega), if_neg (by omega), if_neg (by omega)]; exact h1
    · rw [h]; exact h3
    · rw [h]; exact h3
    · rw [h]; exact h3
  have h3 : 0 < 2 ^ tBits (tOne l r bf) := Nat.pow_pos (by decide)
  unfold tMany
  omega
theorem tellN_more : ∀ (n m : Nat) (r : List Nat) (bf : Option Nat), (∀ x ∈ r, x ≤ 15) → r.length ≤ n → r.length ≤ m → tellN n r bf = tellN m r bf
  | 0, 0, _, _, _, _, _ => rfl
  | 0, m + 1, [], _, _, _, _ => rfl
  | 0, m + 1, l :: r, _, _, h, _ => by simp at h
  | n + 1, 0, [], _, _, _, _ => rfl
  | n + 1, 0, l :: r, _, _, _, h => by simp at h
  | n + 1, m + 1, [], _, _, _, _ => rfl
  | n + 1, m + 1, l :: r, bf, hx, h, h' => by
    have h1 := tMany_ok l r bf (hx l (by simp))
    have h2 := tLeast_pos (tOne l r bf)
    rw [tellN, tellN, tellN_more n m _ _ (fun x hx2 => hx x (List.mem_of_mem_drop hx2)) (by rw [List.length_drop]; omega) (by rw [List.length_drop]; omega)]
def tellsFrom (r : List Nat) (bf : Option Nat) : List (Nat × Nat) := tellN r.length r bf
theorem tells_nil (bf : Option Nat) : tellsFrom [] bf = [] := rfl
theorem tells_at (l : Nat) (r : List Nat) (bf : Option Nat) (hx : ∀ x ∈ l :: r, x ≤ 15) : tellsFrom (l :: r) bf = (tOne l r bf, tMany l r bf - tLeast (tOne l r bf)) :: tellsFrom ((l :: r).drop (tMany l r bf)) (some l) := by
  have h1 := tMany_ok l r bf (hx l (by simp))
  have h2 := tLeast_pos (tOne l r bf)
  unfold tellsFrom
  rw [List.length_cons, tellN, tellN_more r.length ((l :: r).drop (tMany l r bf)).length _ _ (fun x hx2 => hx x (List.mem_of_mem_drop hx2)) (by rw [List.length_drop, List.length_cons]; omega) (Nat.le_refl _)]
theorem tOne_lt (l : Nat) (r : List Nat) (bf : Option Nat) (hl : l ≤ 15) : tOne l r bf < 19 := by
  rcases tOne_cases l r bf with h | ⟨h, _⟩ | ⟨h, _⟩ | ⟨h, _⟩ <;> omega
/-- Each telling's symbol, its number, and how many there are. -/
theorem tells_ok : ∀ (n : Nat) (r : List Nat) (bf : Option Nat), r.length ≤ n → (∀ x ∈ r, x ≤ 15) → (tellsFrom r bf).length ≤ r.length ∧ ∀ t ∈ tellsFrom r bf, t.1 < 19 ∧ t.2 < 2 ^ tBits t.1
  | _, [], bf, _, _ => ⟨Nat.le_refl _, fun t h => by simp [tells_nil] at h⟩
  | 0, l :: r, bf, h, _ => by simp at h
  | n + 1, l :: r, bf, h, hx => by
    have h1 := tMany_ok l r bf (hx l (by simp))
    have h2 := tLeast_pos (tOne l r bf)
    have hd : ((l :: r).drop (tMany l r bf)).length = r.length + 1 - tMany l r bf := by rw [List.length_drop, List.length_cons]
    rw [List.length_cons] at h
    obtain ⟨i1, i2⟩ := tells_ok n ((l :: r).drop (tMany l r bf)) (some l) (by omega) (fun x hx2 => hx x (List.mem_of_mem_drop hx2))
    rw [tells_at l r bf hx, List.length_cons, List.length_cons]
    refine ⟨by omega, fun t ht => ?_⟩
    rcases List.mem_cons.1 ht with rfl | ht
    · exact ⟨tOne_lt l r bf (hx l (by simp)), h1.2.2⟩
    · exact i2 t ht

/-! Told back. -/
def tellBit (tl : List Nat) (t : Nat × Nat) : List Nat := wbits (words tl) t.1 ++ numBits t.2 (tBits t.1)
def tellBits (tl : List Nat) (ts : List (Nat × Nat)) : List Nat := ts.flatMap (tellBit tl)

theorem run_back {bs : List Nat} (hb : Bits bs) {s v p : Nat} (hh : Here bs p (numBits v (tBits s))) (hv : v < 2 ^ tBits s) (hs : s < 19) : Gz.run (toBytes bs) s p = .ok ((if s < 16 then s else 0, v + tLeast s), p + tBits s) := by
  have hn := num_back hb hh hv
  unfold Gz.run
  by_cases h1 : s = 16
  · subst h1
    rw [if_pos rfl]
    have : tBits 16 = 2 := rfl
    rw [this] at hn ⊢
    rw [hn]; rfl
  · rw [if_neg h1]
    by_cases h2 : s = 17
    · subst h2
      rw [if_pos rfl]
      have : tBits 17 = 3 := rfl
      rw [this] at hn ⊢
      rw [hn]; rfl
    · rw [if_neg h2]
      by_cases h3 : s = 18
      · subst h3
        rw [if_pos rfl]
        have : tBits 18 = 7 := rfl
        rw [this] at hn ⊢
        rw [hn]; rfl
      · rw [if_neg h3, if_pos (by omega)]
        have e1 : tBits s = 0 := by unfold tBits; rw [if_neg h1, if_neg h2, if_neg h3]
        have e2 : tLeast s = 1 := by unfold tLeast; rw [if_neg h1, if_neg h2, if_neg h3]
        rw [e1] at hv
        have e3 : v = 0 := by omega
        rw [e1, e2, e3]
        rfl
theorem told_back {bs : List Nat} (hb : Bits bs) {tl : List Nat} (hl : Lens tl) (hs : Gz.share tl ≤ 32768) (h19 : tl.length = 19) {count : Nat} : ∀ (n : Nat) (r old : List Nat) (p : Nat), r.length ≤ n → (∀ x ∈ r, x ≤ 15) → old.length + r.length = count → (∀ t ∈ tellsFrom r old.getLast?, 0 < tl.getD t.1 0) → Here bs p (tellBits tl (tellsFrom r old.getLast?)) →
    Gz.iter (8 * (toBytes bs).length) (Gz.toldStep (toBytes bs) (Gz.makeCode tl) count) old p = .ok (old ++ r, p + (tellBits tl (tellsFrom r old.getLast?)).length)
  | _, [], old, p, _, _, hc, _, _ => by
    rw [tells_nil, List.append_nil]
    refine iter_end ?_
    unfold Gz.toldStep
    rw [if_neg (by simp at hc; omega)]
    rfl
  | 0, l :: r, _, _, h, _, _, _, _ => by simp at h
  | n + 1, l :: r, old, p, h, hx, hc, ht, hh => by
    have h15 := hx l (by simp)
    obtain ⟨m1, m2, m3⟩ := tMany_ok l r old.getLast? h15
    have m4 := tLeast_pos (tOne l r old.getLast?)
    have m5 := tOne_lt l r old.getLast? h15
    have m6 := tOne_cases l r old.getLast?
    have hta := tells_at l r old.getLast? hx
    rw [hta] at ht hh ⊢
    obtain ⟨s, hse⟩ : ∃ s, s = tOne l r old.getLast? := ⟨_, rfl⟩
    obtain ⟨k, hke⟩ : ∃ k, k = tMany l r old.getLast? := ⟨_, rfl⟩
    rw [← hse, ← hke] at ht hh m1 m3 ⊢
    rw [← hse] at m4 m5 m6
    rw [← hke] at m2
    have hsame := same_take l (l :: r) k m2
    have hle := same_le l (l :: r)
    rw [List.length_cons] at hle h hc
    have h0 : 0 < tl.getD s 0 := ht (s, k - tLeast s) (by simp)
    have hsplit : tellBits tl ((s, k - tLeast s) :: tellsFrom ((l :: r).drop k) (some l)) = (wbits (words tl) s ++ numBits (k - tLeast s) (tBits s)) ++ tellBits tl (tellsFrom ((l :: r).drop k) (some l)) := by
      unfold tellBits
      rw [List.flatMap_cons]
      rfl
    rw [hsplit] at hh ⊢
    have hsym := sym_back hb hl hs (s := s) (p := p) (by omega) h0 hh.left.left
    have hsz := wbits_size (l := tl) (s := s) (by omega) h0
    have hr2 := hh.left.right
    rw [hsz] at hr2
    have hrun := run_back hb hr2 m3 m5
    rw [show k - tLeast s + tLeast s = k by omega] at hrun
    have hh2 := hh.right
    rw [List.length_append, hsz, num_len] at hh2
    have hlast : (old ++ List.replicate k l).getLast? = some l := by
      obtain ⟨j, rfl⟩ : ∃ j, k = j + 1 := ⟨k - 1, by omega⟩
      rw [List.replicate_succ', ← List.append_assoc, List.getLast?_concat]
    have hval : (if s = 16 then old.getLastD 0 else if s < 16 then s else 0) = l := by
      rcases m6 with e | ⟨e, e2, _⟩ | ⟨e, e2, _⟩ | ⟨e, e2, _⟩
      · rw [if_neg (by omega), if_pos (by omega), e]
      · rw [if_neg (by omega), if_neg (by omega), e2]
      · rw [if_neg (by omega), if_neg (by omega), e2]
      · rw [if_pos e, List.getLastD_eq_getLast?, e2]; rfl
    have hne : ¬ (s = 16 ∧ old.length = 0) := by
      rintro ⟨e, e2⟩
      have : old = [] := List.eq_nil_of_length_eq_zero e2
      rw [this] at m6
      rcases m6 with e3 | ⟨e3, _⟩ | ⟨e3, _⟩ | ⟨_, e3, _⟩
      · omega
      · omega
      · omega
      · simp at e3
    have hstep : Gz.toldStep (toBytes bs) (Gz.makeCode tl) count old p = .ok (.inl (old ++ List.replicate k l), p + tl.getD s 0 + tBits s) := by
      unfold Gz.toldStep
      rw [if_pos (by omega), hsym]
      simp only [Gz.Out.bind]
      rw [hrun]
      simp only []
      rw [if_neg hne, if_neg (by omega), hval]
    have hroom := bytes_room bs
    have hh1 := hh2.1
    rw [iter_more hstep (by omega) (by omega)]
    have hdl : ((l :: r).drop k).length = r.length + 1 - k := by rw [List.length_drop, List.length_cons]
    have ih := told_back hb hl hs h19 (count := count) n ((l :: r).drop k) (old ++ List.replicate k l) (p + tl.getD s 0 + tBits s) (by omega) (fun x hx2 => hx x (List.mem_of_mem_drop hx2)) (by rw [List.length_append, List.length_replicate]; omega)
      (by rw [hlast]; exact fun t ht2 => ht t (List.mem_cons_of_mem _ ht2)) (by rw [hlast, Nat.add_assoc]; exact hh2)
    rw [hlast] at ih
    rw [ih, List.append_assoc, ← hsame, List.take_append_drop, List.length_append, List.length_append, hsz, num_len]
    congr 2
    omega

/-! The lengths that tell lengths. -/
def part19 (tl : List Nat) (i : Nat) : List Nat := (List.range 19).map fun s => if (Gz.order.take i).contains s then tl.getD s 0 else 0
def firstBits (tl : List Nat) (n : Nat) : List Nat := (List.range n).flatMap fun i => numBits (tl.getD (Gz.order.getD i 0) 0) 3
theorem order_len : Gz.order.length = 19 := rfl
theorem order_new : ∀ i, i < 19 → ∀ s, s < 19 → (Gz.order.take (i + 1)).contains s = ((Gz.order.take i).contains s || (Gz.order.getD i 0 == s)) := by decide
theorem order_all : ∀ s, s < 19 → Gz.order.contains s = true := by decide
theorem part_set (tl : List Nat) (i : Nat) (h : i < 19) : (part19 tl i).set (Gz.order.getD i 0) (tl.getD (Gz.order.getD i 0) 0) = part19 tl (i + 1) := by
  apply List.ext_getElem?
  intro s
  have ho := order_le i h
  rw [List.getElem?_set]
  unfold part19
  rw [List.length_map, List.length_range, List.getElem?_map, List.getElem?_map]
  by_cases hs : s < 19
  · rw [List.getElem?_range hs]
    simp only [Option.map_some]
    have hn := order_new i h s hs
    by_cases e : Gz.order.getD i 0 = s
    · rw [if_pos e, if_pos ho, hn, e]
      simp
    · rw [if_neg e, hn]
      have : (Gz.order.getD i 0 == s) = false := by simpa using e
      rw [this, Bool.or_false]
  · rw [if_neg (by omega), List.getElem?_eq_none (by simp; omega)]
    rfl
theorem tellGo_back {bs : List Nat} (hb : Bits bs) {tl : List Nat} (h7 : ∀ i, tl.getD i 0 ≤ 7) : ∀ (n i p : Nat), n + i ≤ 19 → Here bs p ((List.range' i n).flatMap fun i => numBits (tl.getD (Gz.order.getD i 0) 0) 3) →
    Gz.tellGo (toBytes bs) n i (part19 tl i) p = .ok (part19 tl (i + n), p + 3 * n)
  | 0, i, p, _, _ => rfl
  | n + 1, i, p, h, hh => by
    rw [List.range'_succ, List.flatMap_cons] at hh
    have hn := num_back hb hh.left (by have := h7 (Gz.order.getD i 0); omega)
    have hr := hh.right
    rw [num_len] at hr
    rw [Gz.tellGo, hn]
    simp only [Gz.Out.bind]
    rw [part_set tl i (by omega), tellGo_back hb h7 n (i + 1) (p + 3) (by omega) hr]
    congr 2
    · congr 1; omega
    · omega
theorem part_none (tl : List Nat) : part19 tl 0 = List.replicate 19 0 := by
  unfold part19
  apply List.ext_getElem?
  intro s
  rw [List.getElem?_map, List.getElem?_replicate]
  by_cases hs : s < 19
  · rw [List.getElem?_range hs, if_pos hs]; simp
  · rw [List.getElem?_eq_none (by simp; omega), if_neg hs]; rfl
theorem part_all (tl : List Nat) (h19 : tl.length = 19) (n : Nat) (hz : ∀ j, n ≤ j → j < 19 → tl.getD (Gz.order.getD j 0) 0 = 0) : part19 tl n = tl := by
  unfold part19
  apply List.ext_getElem?
  intro s
  rw [List.getElem?_map]
  by_cases hs : s < 19
  · rw [List.getElem?_range hs]
    simp only [Option.map_some]
    have e : tl[s]? = some (tl.getD s 0) := by rw [List.getD, List.getElem?_eq_getElem (by omega)]; rfl
    rw [e]
    by_cases hc : (Gz.order.take n).contains s = true
    · rw [if_pos hc]
    · rw [if_neg hc]
      have h1 := order_all s hs
      rw [← List.take_append_drop n Gz.order, List.contains_append] at h1
      have h2 : (Gz.order.drop n).contains s = true := by
        rcases Bool.or_eq_true_iff.1 h1 with h | h
        · exact absurd h hc
        · exact h
      rw [List.contains_iff_mem] at h2
      obtain ⟨j, hj, e2⟩ := List.getElem_of_mem h2
      rw [List.length_drop, order_len] at hj
      rw [List.getElem_drop] at e2
      have := hz (n + j) (by omega) (by omega)
      have e3 : Gz.order.getD (n + j) 0 = s := by rw [List.getD, List.getElem?_eq_getElem (by rw [order_len]; omega), e2]; rfl
      rw [e3] at this
      rw [this]
  · rw [List.getElem?_eq_none (by simp; omega), List.getElem?_eq_none (by omega)]; rfl
/-- How many lengths there are up to the last one that is not 0. -/
def upTo (l : List Nat) : Nat → Nat
  | 0 => 0
  | n + 1 => if l.getD n 0 = 0 then upTo l n else n + 1
def cntTo (tl : List Nat) : Nat → Nat
  | 0 => 0
  | n + 1 => if 4 < n + 1 ∧ tl.getD (Gz.order.getD n 0) 0 = 0 then cntTo tl n else n + 1
theorem cnt_le (tl : List Nat) : ∀ n, 4 ≤ n → 4 ≤ cntTo tl n ∧ cntTo tl n ≤ n ∧ ∀ j, cntTo tl n ≤ j → j < n → tl.getD (Gz.order.getD j 0) 0 = 0
  | 0, h => by omega
  | n + 1, h => by
    unfold cntTo
    split
    · rename_i h1
      obtain ⟨i1, i2, i3⟩ := cnt_le tl n (by omega)
      refine ⟨i1, by omega, fun j hj hj2 => ?_⟩
      by_cases e : j = n
      · rw [e]; exact h1.2
      · exact i3 j hj (by omega)
    · exact ⟨h, Nat.le_refl _, fun j hj hj2 => by omega⟩
theorem upTo_le (l : List Nat) : ∀ n, upTo l n ≤ n ∧ (∀ j, upTo l n ≤ j → j < n → l.getD j 0 = 0) ∧ ∀ j, j < n → l.getD j 0 ≠ 0 → j < upTo l n
  | 0 => ⟨Nat.le_refl _, fun j h1 h2 => by omega, fun j h => by omega⟩
  | n + 1 => by
    obtain ⟨i1, i2, i3⟩ := upTo_le l n
    unfold upTo
    split
    · rename_i h
      refine ⟨by omega, fun j h1 h2 => ?_, fun j h1 h2 => ?_⟩
      · by_cases e : j = n
        · rw [e]; exact h
        · exact i2 j h1 (by omega)
      · by_cases e : j = n
        · rw [e] at h2; exact absurd h h2
        · exact i3 j (by omega) h2
    · exact ⟨Nat.le_refl _, fun j h1 h2 => by omega, fun j h1 _ => h1⟩
end Pk
end Go.Proofs.YtjjjlilflbddoaaDoor
