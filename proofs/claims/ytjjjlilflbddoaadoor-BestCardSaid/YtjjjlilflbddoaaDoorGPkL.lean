import Derived.Test.YtjjjlilflbddoaaDoorGPkJ
import Derived.Test.YtjjjlilflbddoaaDoorGPm
/-
  What was written is read: a whole block. Nothing of the dump is imported.
-/
namespace Go.Proofs.YtjjjlilflbddoaaDoor
namespace Pk

theorem foldl_zeros {α : Type} (f : α → Nat → α) (hf : ∀ a, f a 0 = a) : ∀ (k : Nat) (a : α), (List.replicate k 0).foldl f a = a
  | 0, _ => rfl
  | k + 1, a => by rw [List.replicate_succ, List.foldl_cons, hf]; exact foldl_zeros f hf k a
theorem counts_zeros (l : List Nat) (k : Nat) : Gz.counts (l ++ List.replicate k 0) = Gz.counts l := by
  unfold Gz.counts
  rw [List.foldl_append]
  exact foldl_zeros _ (fun a => by simp) k _
theorem fillTo_zeros (l : List Nat) (k : Nat) : ∀ i, i ≤ l.length → fillTo (l ++ List.replicate k 0) i = fillTo l i
  | 0, _ => by unfold fillTo; rw [List.take_zero, List.take_zero, List.foldl_nil, List.foldl_nil, counts_zeros]
  | i + 1, h => by
    rw [fillTo_succ _ i (by rw [List.length_append]; omega), fillTo_succ _ i (by omega), fillTo_zeros l k i (by omega)]
    congr 2
    rw [List.getD, List.getD, List.getElem?_append_left (by omega)]
theorem fillTo_more (l : List Nat) (k : Nat) : ∀ j, j ≤ k → fillTo (l ++ List.replicate k 0) (l.length + j) = fillTo l l.length
  | 0, _ => fillTo_zeros l k l.length (Nat.le_refl _)
  | j + 1, h => by
    have e : (l ++ List.replicate k 0).getD (l.length + j) 0 = 0 := by
      rw [List.getD, List.getElem?_append_right (by omega), List.getElem?_replicate]; split <;> rfl
    rw [← Nat.add_assoc, fillTo_succ _ (l.length + j) (by rw [List.length_append, List.length_replicate]; omega), e, fillTo_more l k j (by omega)]
    unfold Gz.fillStep
    rw [if_neg (by show ¬ 0 < 0; omega)]
theorem makeCode_zeros (l : List Nat) (k : Nat) : Gz.makeCode (l ++ List.replicate k 0) = Gz.makeCode l := by
  unfold Gz.makeCode
  have h1 := counts_zeros l k
  have h2 : Gz.fill (l ++ List.replicate k 0) = Gz.fill l := by
    rw [← fillTo_end, ← fillTo_end, List.length_append, List.length_replicate]
    exact fillTo_more l k k (Nat.le_refl _)
  have h3 : (l ++ List.replicate k 0).foldl max 0 = l.foldl max 0 := by
    rw [List.foldl_append]; exact foldl_zeros _ (fun a => by simp) k _
  rw [h1, h2, h3]
theorem makeCode_wide (l : List Nat) (n : Nat) : Gz.makeCode (Gz.wide l n) = Gz.makeCode l := makeCode_zeros l _
theorem share_wide (l : List Nat) (n : Nat) : Gz.share (Gz.wide l n) = Gz.share l := by
  unfold Gz.share Gz.wide
  rw [List.map_append, List.sum_append, List.map_replicate]
  simp
theorem sum_wide (l : List Nat) (n : Nat) : (Gz.wide l n).sum = l.sum := by
  unfold Gz.wide
  rw [List.sum_append]
  simp

theorem wide_take (l : List Nat) (k n : Nat) (hk : k ≤ n) (hn : n ≤ l.length) (hz : ∀ j, k ≤ j → j < n → l.getD j 0 = 0) : Gz.wide (l.take k) n = l.take n := by
  unfold Gz.wide
  apply List.ext_getElem?
  intro i
  have hl : (l.take k).length = k := by rw [List.length_take]; omega
  by_cases h1 : i < k
  · rw [List.getElem?_append_left (by omega), List.getElem?_take_of_lt h1, List.getElem?_take_of_lt (by omega)]
  · rw [List.getElem?_append_right (by omega), hl, List.getElem?_replicate]
    by_cases h2 : i < n
    · rw [if_pos (by omega), List.getElem?_take_of_lt h2, List.getElem?_eq_getElem (by omega)]
      have := hz i (by omega) h2
      rw [List.getD, List.getElem?_eq_getElem (by omega)] at this
      congr 1
      exact this.symm
    · rw [if_neg (by omega), List.getElem?_eq_none (by rw [List.length_take]; omega)]

def nsy (ls : List Nat) : Nat := upTo ls 288
def nds (lf : List Nat) : Nat := max 1 (upTo lf 32)
/-- All the lengths that are told. -/
def allOf (ls lf : List Nat) : List Nat := ls.take (nsy ls) ++ lf.take (nds lf)
def headBits (ls lf tl : List Nat) : List Nat :=
  numBits (nsy ls - 257) 5 ++ (numBits (nds lf - 1) 5 ++ (numBits (cntTo tl 19 - 4) 4 ++ (firstBits tl (cntTo tl 19) ++ tellBits tl (tells (allOf ls lf)))))
/-- The lengths of a block of kind 2, right ones. -/
structure Head (ls lf tl : List Nat) : Prop where
  l1 : Lens ls
  l2 : Lens lf
  n1 : ls.length = 288
  n2 : lf.length = 32
  s1 : Gz.share ls = 32768
  e1 : 0 < ls.getD 256 0
  z1 : ∀ j, 286 ≤ j → j < 288 → ls.getD j 0 = 0
  z2 : ∀ j, 30 ≤ j → j < 32 → lf.getD j 0 = 0
  s2 : lf.sum ≤ 1 ∨ Gz.share lf = 32768
  n3 : tl.length = 19
  l3 : ∀ i, tl.getD i 0 ≤ 7
  s3 : Gz.share tl = 32768
  t3 : ∀ t ∈ tells (allOf ls lf), 0 < tl.getD t.1 0
section
variable {ls lf tl : List Nat} (H : Head ls lf tl)
theorem nsy_ok (H : Head ls lf tl) : 257 ≤ nsy ls ∧ nsy ls ≤ 286 ∧ (∀ j, nsy ls ≤ j → j < 288 → ls.getD j 0 = 0) := by
  have h := upTo_le ls 288
  have h1 := h.2.2 256 (by omega) (by have := H.e1; omega)
  refine ⟨by unfold nsy; omega, ?_, h.2.1⟩
  unfold nsy
  have h2 := h.1
  have h3 : ∀ n, 286 ≤ n → n ≤ 288 → upTo ls n ≤ 286 := by
    intro n hn hn2
    rcases (by omega : n = 286 ∨ n = 287 ∨ n = 288) with e | e | e
    · rw [e]; exact (upTo_le ls 286).1
    · rw [e, upTo, if_pos (H.z1 286 (by omega) (by omega))]; exact (upTo_le ls 286).1
    · rw [e, upTo, if_pos (H.z1 287 (by omega) (by omega)), upTo, if_pos (H.z1 286 (by omega) (by omega))]; exact (upTo_le ls 286).1
  exact h3 288 (by omega) (by omega)
theorem nds_ok (H : Head ls lf tl) : 1 ≤ nds lf ∧ nds lf ≤ 30 ∧ (∀ j, nds lf ≤ j → j < 32 → lf.getD j 0 = 0) := by
  have h := upTo_le lf 32
  have h3 : upTo lf 32 ≤ 30 := by
    rw [upTo, if_pos (H.z2 31 (by omega) (by omega)), upTo, if_pos (H.z2 30 (by omega) (by omega))]
    exact (upTo_le lf 30).1
  unfold nds
  exact ⟨by omega, by omega, fun j h1 h2 => h.2.1 j (by omega) h2⟩
theorem all_len (H : Head ls lf tl) : (allOf ls lf).length = nsy ls + nds lf := by
  have h1 := nsy_ok H
  have h2 := nds_ok H
  unfold allOf
  rw [List.length_append, List.length_take, List.length_take, H.n1, H.n2]
  omega
theorem lens_mem {l : List Nat} (h : Lens l) : ∀ x ∈ l, x ≤ 15 := fun x hx => by
  obtain ⟨i, hi, e⟩ := List.getElem_of_mem hx
  have := h i hi
  rw [List.getD, List.getElem?_eq_getElem hi, Option.getD_some, e] at this
  exact this
theorem all_15 (H : Head ls lf tl) : ∀ x ∈ allOf ls lf, x ≤ 15 := fun x hx => by
  rcases List.mem_append.1 hx with h | h
  · exact lens_mem H.l1 x (List.mem_of_mem_take h)
  · exact lens_mem H.l2 x (List.mem_of_mem_take h)
theorem lens_back (H : Head ls lf tl) {bs : List Nat} (hb : Bits bs) {p : Nat} (hh : Here bs p (headBits ls lf tl)) : Rf.lens (toBytes bs) p = .ok ((ls.take 286, lf.take 30), p + (headBits ls lf tl).length) := by
  obtain ⟨a1, a2, a3⟩ := nsy_ok H
  obtain ⟨b1, b2, b3⟩ := nds_ok H
  obtain ⟨c1, c2, c3⟩ := cnt_le tl 19 (by omega)
  have hal := all_len H
  obtain ⟨k, hk⟩ : ∃ k, k = cntTo tl 19 := ⟨_, rfl⟩
  have e0 : (headBits ls lf tl).length = 14 + 3 * k + (tellBits tl (tells (allOf ls lf))).length := by
    unfold headBits
    rw [← hk, List.length_append, List.length_append, List.length_append, List.length_append, num_len, num_len, num_len]
    have : ∀ n, (firstBits tl n).length = 3 * n := fun n => by
      induction n with
      | zero => rfl
      | succ n ih =>
        unfold firstBits at ih ⊢
        rw [List.range_succ, List.flatMap_append, List.length_append, ih]
        simp [num_len]
        omega
    rw [this]
    omega
  rw [e0]
  unfold headBits at hh
  rw [← hk] at hh c1 c2 c3
  have n1 := num_back hb hh.left (by omega)
  have r1 := hh.right
  rw [num_len] at r1
  have n2 := num_back hb r1.left (by omega)
  have r2 := r1.right
  rw [num_len] at r2
  have n3 := num_back hb r2.left (by omega)
  have r3 := r2.right
  rw [num_len] at r3
  have t1 := r3.left
  unfold firstBits at t1
  rw [List.range_eq_range'] at t1
  have g1 := tellGo_back hb H.l3 k 0 _ (by omega) t1
  rw [part_none, Nat.zero_add, part_all tl H.n3 k c3] at g1
  have r4 := r3.right
  have hfl : (firstBits tl k).length = 3 * k := by
    have : ∀ n, (firstBits tl n).length = 3 * n := fun n => by
      induction n with
      | zero => rfl
      | succ n ih =>
        unfold firstBits at ih ⊢
        rw [List.range_succ, List.flatMap_append, List.length_append, ih]
        simp [num_len]
        omega
    exact this k
  rw [hfl] at r4
  have hl7 : Lens tl := fun i _ => by have := H.l3 i; omega
  have g2 := told_back hb hl7 (Nat.le_of_eq H.s3) H.n3 (count := nsy ls + nds lf) (allOf ls lf).length (allOf ls lf) [] _ (Nat.le_refl _) (all_15 H) (by rw [hal]; simp) H.t3 r4
  rw [List.nil_append] at g2
  have g3 : Gz.told (toBytes bs) (Gz.makeCode tl) (nsy ls + nds lf) (p + 5 + 5 + 4 + 3 * k) = .ok (allOf ls lf, p + 5 + 5 + 4 + 3 * k + (tellBits tl (tells (allOf ls lf))).length) := g2
  have ht1 : (allOf ls lf).take (nsy ls) = ls.take (nsy ls) := by
    unfold allOf
    rw [List.take_append_of_le_length (by rw [List.length_take, H.n1]; omega), List.take_take, Nat.min_self]
  have ht2 : (allOf ls lf).drop (nsy ls) = lf.take (nds lf) := by
    unfold allOf
    rw [List.drop_append_of_le_length (by rw [List.length_take, H.n1]; omega), List.drop_of_length_le (by rw [List.length_take]; omega), List.nil_append]
  have w1 : Gz.wide (ls.take (nsy ls)) 288 = ls := by rw [wide_take ls _ 288 (by omega) (by rw [H.n1]; omega) a3, List.take_of_length_le (by rw [H.n1]; omega)]
  have w2 : Gz.wide (lf.take (nds lf)) 32 = lf := by rw [wide_take lf _ 32 (by omega) (by rw [H.n2]; omega) b3, List.take_of_length_le (by rw [H.n2]; omega)]
  have hr : Rf.right (ls.take (nsy ls)) (lf.take (nds lf)) = true := by
    have x1 : Gz.share (ls.take (nsy ls)) = 32768 := by rw [← share_wide _ 288, w1]; exact H.s1
    have x2 : (ls.take (nsy ls)).getD 256 0 = ls.getD 256 0 := by rw [List.getD, List.getElem?_take_of_lt (by omega), List.getD]
    have x3 : Gz.share (lf.take (nds lf)) = Gz.share lf := by rw [← share_wide _ 32, w2]
    have x4 : (lf.take (nds lf)).sum = lf.sum := by rw [← sum_wide _ 32, w2]
    have x5 := H.e1
    unfold Rf.right Gz.complete
    rw [x1, x2, x3, x4]
    have x6 : (ls.getD 256 0 != 0) = true := bne_iff_ne.2 (by omega)
    rw [x6]
    rcases H.s2 with h | h
    · simp [h]
    · simp [h]
  unfold Rf.lens
  rw [n1]
  simp only [Gz.Out.bind]
  rw [n2]
  simp only []
  rw [n3]
  simp only []
  rw [if_neg (by omega), show k - 4 + 4 = k by omega]
  rw [g1]
  simp only []
  have hcm : Gz.complete tl = true := by unfold Gz.complete; rw [H.s3]; rfl
  rw [if_pos hcm, show nsy ls - 257 + 257 = nsy ls by omega, show nds lf - 1 + 1 = nds lf by omega, g3]
  simp only []
  rw [ht1, ht2, if_pos hr, wide_take ls _ 286 (by omega) (by rw [H.n1]; omega) (fun j h1 h2 => a3 j h1 (by omega)), wide_take lf _ 30 (by omega) (by rw [H.n2]; omega) (fun j h1 h2 => b3 j h1 (by omega))]
  congr 2
  omega
end

/-! A whole block. -/
def packed1 (d : List UInt8) : List Nat := numBits 1 1 ++ (numBits 1 2 ++ symsBits Rf.fixedA Rf.fixedB (toks d))
def packed2 (d : List UInt8) (ls lf tl : List Nat) : List Nat := numBits 1 1 ++ (numBits 2 2 ++ (headBits ls lf tl ++ symsBits ls lf (toks d)))
theorem toks_lt (d : List UInt8) : ∀ (n q : Nat), d.length - q ≤ n → ∀ t ∈ toksFrom d q, (t.2 = 0 → t.1 < 256) ∧ (t.2 ≠ 0 → 3 ≤ t.1 ∧ t.1 ≤ 258 ∧ t.2 ≤ d.length)
  | n, q, h, t, ht => by
    by_cases hq : q < d.length
    · rw [toksFrom_at hq] at ht
      obtain ⟨k1, k2⟩ := tok_ok d q
      rcases List.mem_cons.1 ht with rfl | ht
      · exact ⟨fun e => by rw [k1.lit e]; exact UInt8.toNat_lt _, fun e => by
          obtain ⟨a1, a2, a3, a4, _⟩ := k1.far e
          exact ⟨a1, a2, by omega⟩⟩
      · have := adv_pos d q
        cases n with
        | zero => omega
        | succ n => exact toks_lt d n (q + adv d q) (by omega) t ht
    · rw [toksFrom_end (by omega)] at ht
      simp at ht
theorem toks_good (d : List UInt8) : ∀ t ∈ toks d, (t.2 = 0 → t.1 < 256) ∧ (t.2 ≠ 0 → 3 ≤ t.1 ∧ t.1 ≤ 258 ∧ t.2 ≤ d.length) := toks_lt d d.length 0 (by omega)
set_option maxRecDepth 10000 in
theorem fixed_suf (d : List UInt8) : Suf Rf.fixedA Rf.fixedB (toks d) := by
  have hA : ∀ i, i < 288 → 0 < Rf.fixedA.getD i 0 := by decide
  have hB : ∀ i, i < 32 → 0 < Rf.fixedB.getD i 0 := by decide
  refine ⟨?_, ?_, ?_, ?_, ?_, ?_, fun t ht => ?_, fun t ht h => ?_, hA 256 (by omega)⟩
  · show ∀ i, i < 288 → Rf.fixedA.getD i 0 ≤ 15; decide
  · show ∀ i, i < 32 → Rf.fixedB.getD i 0 ≤ 15; decide
  · decide
  · decide
  · decide
  · decide
  · have := symOf_lt (t := t) (fun e => ((toks_good d) t ht).1 e)
    exact hA _ (by omega)
  · have := farSym_le t.2
    exact hB _ (by omega)
end Pk
end Go.Proofs.YtjjjlilflbddoaaDoor
/-
  What was written is read: all three kinds. Nothing of the dump is imported.
-/
namespace Go.Proofs.YtjjjlilflbddoaaDoor
namespace Pk

theorem bits_flat {α : Type} {l : List α} {f : α → List Nat} (h : ∀ x ∈ l, Bits (f x)) : Bits (l.flatMap f) := fun b hb => by
  obtain ⟨x, hx, hb⟩ := List.mem_flatMap.1 hb
  exact h x hx b hb
theorem bits_w (ws : List (Nat × Nat)) (s : Nat) : Bits (wbits ws s) := bits_word _ _
theorem bits_tok (ls lf : List Nat) (t : Nat × Nat) : Bits (tokBits ls lf t) := by
  unfold tokBits
  refine (bits_w _ _).app ?_
  split
  · exact bits_nil
  · exact (bits_num _ _).app ((bits_w _ _).app (bits_num _ _))
theorem bits_syms (ls lf : List Nat) (ts : List (Nat × Nat)) : Bits (symsBits ls lf ts) := (bits_flat fun _ _ => bits_tok _ _ _).app (bits_w _ _)
theorem bits_head (ls lf tl : List Nat) : Bits (headBits ls lf tl) :=
  (bits_num _ _).app ((bits_num _ _).app ((bits_num _ _).app ((bits_flat fun _ _ => bits_num _ _).app (bits_flat fun _ _ => (bits_w _ _).app (bits_num _ _)))))
theorem bits_1 (d : List UInt8) : Bits (packed1 d) := (bits_num _ _).app ((bits_num _ _).app (bits_syms _ _ _))
theorem bits_2 (d : List UInt8) (ls lf tl : List Nat) : Bits (packed2 d ls lf tl) := (bits_num _ _).app ((bits_num _ _).app ((bits_head _ _ _).app (bits_syms _ _ _)))

theorem syms_all {bs : List Nat} (hb : Bits bs) {ls lf : List Nat} {d : List UInt8} (H : Suf ls lf (toks d)) {lim : Nat} (hl : d.length ≤ lim) (hd : d.length ≤ 30000) (x : Rf.D) (h0 : x.st = 0) (ho : x.out = []) (hh : Here bs x.pos (symsBits ls lf (toks d))) :
    Rf.syms (toBytes bs) lim ⟨Gz.makeCode ls, Gz.makeCode lf⟩ x = { x with pos := x.pos + (symsBits ls lf (toks d)).length, out := d, toks := x.toks ++ toks d } := by
  have h1 := tok_pos H (fun t ht => symOf_lt (fun e => ((toks_good d) t ht).1 e)) (toks d) (fun _ h => h)
  have h2 := hh.1
  have h3 := bytes_room bs
  have h4 : ((toks d).flatMap (tokBits ls lf)).length ≤ (symsBits ls lf (toks d)).length := by unfold symsBits; rw [List.length_append]; omega
  exact syms_back hb H hl hd _ 0 x h0 (by rw [ho]; rfl) (Nat.zero_le _) (fun _ h => h) hh (by rw [toksFrom_zero]; omega)

theorem read_one {bs : List Nat} {lim : Nat} {x : Rf.D} (h : Rf.block (toBytes bs) lim Rf.start = (x, true)) (h0 : x.st = 0) : Rf.read (toBytes bs) lim = (x, true) := by
  unfold Rf.read Rf.readN
  rw [h]
  simp only []
  rw [if_pos h0]
  rfl

theorem read1 (d : List UInt8) (lim : Nat) (hl : d.length ≤ lim) (hd : d.length ≤ 30000) :
    Rf.read (toBytes (packed1 d)) lim = ({ pos := (packed1 d).length, st := 0, out := d, keys := [], kinds := [1], toks := toks d }, true) := by
  have hb := bits_1 d
  have hh : Here (packed1 d) 0 (numBits 1 1 ++ (numBits 1 2 ++ symsBits Rf.fixedA Rf.fixedB (toks d))) := here_all _
  refine read_one ?_ rfl
  have e : packed1 d = numBits 1 1 ++ (numBits 1 2 ++ symsBits Rf.fixedA Rf.fixedB (toks d)) := rfl
  have el : (packed1 d).length = 0 + 1 + 2 + (symsBits Rf.fixedA Rf.fixedB (toks d)).length := by rw [e, List.length_append, List.length_append, num_len, num_len]; omega
  obtain ⟨bs, hbs⟩ : ∃ bs, bs = packed1 d := ⟨_, rfl⟩
  rw [← hbs] at hb el hh ⊢
  have n1 := num_back hb hh.left (by decide)
  have r1 := hh.right
  rw [num_len] at r1
  have n2 := num_back hb r1.left (by decide)
  have r2 := r1.right
  rw [num_len] at r2
  have hs := syms_all hb (fixed_suf d) hl hd { pos := 0 + 1 + 2, st := 0, out := [], keys := [], kinds := [] ++ [1], toks := [] } rfl rfl r2
  have n1' : Gz.num (toBytes bs) 1 Rf.start.pos = .ok (1, 0 + 1) := n1
  unfold Rf.block
  rw [n1']
  simp only [Gz.Out.bind]
  rw [n2]
  simp only []
  rw [if_neg (by omega), if_neg (by omega), if_pos True.intro]
  show (Rf.syms (toBytes bs) lim ⟨Gz.makeCode Rf.fixedA, Gz.makeCode Rf.fixedB⟩ { pos := 0 + 1 + 2, st := 0, out := [], keys := [], kinds := [] ++ [1], toks := [] }, true) = _
  rw [hs, el]
  rfl

theorem read2 (d : List UInt8) (lim : Nat) {ls lf tl : List Nat} (H : Head ls lf tl) (hS : Suf ls lf (toks d)) (hl : d.length ≤ lim) (hd : d.length ≤ 30000) :
    Rf.read (toBytes (packed2 d ls lf tl)) lim = ({ pos := (packed2 d ls lf tl).length, st := 0, out := d, keys := [ls.take 286 ++ lf.take 30], kinds := [2], toks := toks d }, true) := by
  have hb := bits_2 d ls lf tl
  have hh : Here (packed2 d ls lf tl) 0 (numBits 1 1 ++ (numBits 2 2 ++ (headBits ls lf tl ++ symsBits ls lf (toks d)))) := here_all _
  refine read_one ?_ rfl
  have e : packed2 d ls lf tl = numBits 1 1 ++ (numBits 2 2 ++ (headBits ls lf tl ++ symsBits ls lf (toks d))) := rfl
  have el : (packed2 d ls lf tl).length = 0 + 1 + 2 + (headBits ls lf tl).length + (symsBits ls lf (toks d)).length := by rw [e, List.length_append, List.length_append, List.length_append, num_len, num_len]; omega
  obtain ⟨bs, hbs⟩ : ∃ bs, bs = packed2 d ls lf tl := ⟨_, rfl⟩
  rw [← hbs] at hb el hh ⊢
  have n1 := num_back hb hh.left (by decide)
  have r1 := hh.right
  rw [num_len] at r1
  have n2 := num_back hb r1.left (by decide)
  have r2 := r1.right
  rw [num_len] at r2
  have n3 := lens_back H hb r2.left
  have r3 := r2.right
  have c1 : Gz.makeCode (ls.take 286) = Gz.makeCode ls := by rw [← makeCode_wide (ls.take 286) 288, wide_take ls 286 288 (by omega) (by rw [H.n1]; omega) H.z1, List.take_of_length_le (by rw [H.n1]; omega)]
  have c2 : Gz.makeCode (lf.take 30) = Gz.makeCode lf := by rw [← makeCode_wide (lf.take 30) 32, wide_take lf 30 32 (by omega) (by rw [H.n2]; omega) H.z2, List.take_of_length_le (by rw [H.n2]; omega)]
  have hs := syms_all hb hS hl hd { pos := 0 + 1 + 2 + (headBits ls lf tl).length, st := 0, out := [], keys := [] ++ [ls.take 286 ++ lf.take 30], kinds := [] ++ [2], toks := [] } rfl rfl r3
  have n1' : Gz.num (toBytes bs) 1 Rf.start.pos = .ok (1, 0 + 1) := n1
  unfold Rf.block
  rw [n1']
  simp only [Gz.Out.bind]
  rw [n2]
  simp only []
  rw [if_neg (by omega), if_neg (by omega), if_neg (by omega), n3]
  simp only []
  show (Rf.syms (toBytes bs) lim ⟨Gz.makeCode (ls.take 286), Gz.makeCode (lf.take 30)⟩ { pos := 0 + 1 + 2 + (headBits ls lf tl).length, st := 0, out := [], keys := [] ++ [ls.take 286 ++ lf.take 30], kinds := [] ++ [2], toks := [] }, true) = _
  rw [c1, c2, hs, el]
  rfl

/-! Kind 0. -/
theorem bits_byte (d : List UInt8) : Bits (byteBits d) := bits_flat fun _ _ => bits_num _ _
theorem bits_0 (bs : List Nat) (h : Bits bs) (d : List UInt8) : Bits (storedBits bs d) := (((bits_pad h).app (bits_num _ _)).app (bits_num _ _)).app (bits_byte d)
theorem bytes_back {bs : List Nat} (hb : Bits bs) (d : List UInt8) (lim : Nat) (hl : d.length ≤ lim) : ∀ (r o : List UInt8) (x : Rf.D), x.st = 0 → x.out = o → o ++ r = d → Here bs x.pos (byteBits r) → Rf.bytesN (toBytes bs) lim r.length x = { x with pos := x.pos + 8 * r.length, out := d }
  | [], o, x, _, ho, he, _ => by
    rw [List.append_nil] at he
    show x = _
    rw [← he, ← ho]
    rfl
  | c :: r, o, x, h0, ho, he, hh => by
    have hh' : Here bs x.pos (numBits c.toNat 8 ++ byteBits r) := hh
    have hn := num_back hb hh'.left (UInt8.toNat_lt c)
    have hr := hh'.right
    rw [num_len] at hr
    have hol : o.length + (r.length + 1) = d.length := by rw [← he, List.length_append, List.length_cons]
    have hp : Rf.put lim { x with pos := x.pos + 8 } (UInt8.ofNat c.toNat) = { x with pos := x.pos + 8, out := o ++ [c] } := by
      unfold Rf.put
      rw [if_neg (by show ¬ lim ≤ x.out.length; rw [ho]; omega), UInt8.ofNat_toNat]
      show ({ x with pos := x.pos + 8, out := x.out ++ [c] } : Rf.D) = _
      rw [ho]
    have ih := bytes_back hb d lim hl r (o ++ [c]) { x with pos := x.pos + 8, out := o ++ [c] } h0 rfl (by rw [List.append_assoc]; exact he) hr
    rw [List.length_cons, Rf.bytesN, if_pos h0, hn]
    simp only []
    rw [hp, ih]
    simp only []
    rw [show x.pos + 8 + 8 * r.length = x.pos + 8 * (r.length + 1) by omega]
def packed0 (d : List UInt8) : List Nat := storedBits (numBits 1 1 ++ numBits 0 2) d
theorem read0 (d : List UInt8) (lim : Nat) (hl : d.length ≤ lim) (hd : d.length ≤ 30000) :
    Rf.read (toBytes (packed0 d)) lim = ({ pos := (packed0 d).length, st := 0, out := d, keys := [], kinds := [0], toks := [] }, true) := by
  have hb : Bits (packed0 d) := bits_0 _ ((bits_num _ _).app (bits_num _ _)) d
  have e : packed0 d = numBits 1 1 ++ (numBits 0 2 ++ (List.replicate 5 0 ++ (numBits d.length 16 ++ (numBits (65535 - d.length) 16 ++ byteBits d)))) := by
    unfold packed0 storedBits pad8
    simp only [List.append_assoc]
    rfl
  have hh : Here (packed0 d) 0 (numBits 1 1 ++ (numBits 0 2 ++ (List.replicate 5 0 ++ (numBits d.length 16 ++ (numBits (65535 - d.length) 16 ++ byteBits d))))) := by
    rw [← e]; exact here_all _
  refine read_one ?_ rfl
  have el : (packed0 d).length = 0 + 1 + 2 + 5 + 16 + 16 + 8 * d.length := by
    rw [e]
    simp only [List.length_append, num_len, List.length_replicate, byte_len]
    omega
  obtain ⟨bs, hbs⟩ : ∃ bs, bs = packed0 d := ⟨_, rfl⟩
  rw [← hbs] at hb el hh ⊢
  have n1 := num_back hb hh.left (by decide)
  have r1 := hh.right
  rw [num_len] at r1
  have n2 := num_back hb r1.left (by decide)
  have r2 := r1.right
  rw [num_len] at r2
  have r3 := r2.right
  rw [List.length_replicate] at r3
  have n3 := num_back hb r3.left (by omega)
  have r4 := r3.right
  rw [num_len] at r4
  have n4 := num_back hb r4.left (by omega)
  have r5 := r4.right
  rw [num_len] at r5
  have hs := bytes_back hb d lim hl d [] { pos := 0 + 1 + 2 + 5 + 16 + 16, st := 0, out := [], keys := [], kinds := [] ++ [0], toks := [] } rfl rfl rfl r5
  have n1' : Gz.num (toBytes bs) 1 Rf.start.pos = .ok (1, 0 + 1) := n1
  unfold Rf.block
  rw [n1']
  simp only [Gz.Out.bind]
  rw [n2]
  simp only []
  rw [if_neg (by omega), if_pos True.intro]
  unfold Rf.stored
  have n3' : Gz.num (toBytes bs) 16 (8 * ((0 + 1 + 2 + 7) / 8)) = .ok (d.length, 0 + 1 + 2 + 5 + 16) := n3
  simp only []
  rw [n3']
  simp only [Gz.Out.bind]
  rw [n4]
  simp only []
  rw [if_neg (by omega)]
  show (Rf.bytesN (toBytes bs) lim d.length { pos := 0 + 1 + 2 + 5 + 16 + 16, st := 0, out := [], keys := [], kinds := [] ++ [0], toks := [] }, true) = _
  rw [hs, el]
  rfl
end Pk
end Go.Proofs.YtjjjlilflbddoaaDoor
/-
  The bytes of whole bytes; a stored block's bytes.
-/
namespace Go.Proofs.YtjjjlilflbddoaaDoor
namespace Pk
theorem valL_shift (a b : List Nat) (p : Nat) : ∀ n, valL (a ++ b) (a.length + p) n = valL b p n
  | 0 => rfl
  | n + 1 => by rw [valL, valL, valL_shift a b p n, getD_app_right (by omega), show a.length + p + n - a.length = p + n by omega]
theorem num8 (v : Nat) : numBits v 8 = [v % 2, v / 2 % 2, v / 4 % 2, v / 8 % 2, v / 16 % 2, v / 32 % 2, v / 64 % 2, v / 128 % 2] := by
  simp [numBits, List.range, List.range.loop]
theorem valL_num (v : Nat) (h : v < 256) (bs : List Nat) : valL (numBits v 8 ++ bs) 0 8 = v := by
  rw [num8]
  simp [valL]
  omega
theorem bytes_cons (c : UInt8) (bs : List Nat) : toBytes (numBits c.toNat 8 ++ bs) = c :: toBytes bs := by
  have hc := c.toNat_lt
  unfold toBytes
  rw [List.length_append, num_len, show (8 + bs.length + 7) / 8 = (bs.length + 7) / 8 + 1 by omega, List.range_succ_eq_map, List.map_cons, List.map_map]
  have e1 : UInt8.ofNat (valL (numBits c.toNat 8 ++ bs) (8 * 0) 8) = c := by rw [Nat.mul_zero, valL_num _ (by omega), UInt8.ofNat_toNat]
  rw [e1]
  refine congrArg (List.cons c) (List.map_congr_left (fun i _ => ?_))
  show UInt8.ofNat (valL _ (8 * (i + 1)) 8) = _
  have e : 8 * (i + 1) = (numBits c.toNat 8).length + 8 * i := by rw [num_len]; omega
  rw [e, valL_shift]
theorem bytes_bytes : ∀ l : List UInt8, toBytes (byteBits l) = l
  | [] => rfl
  | c :: l => by
    show toBytes (numBits c.toNat 8 ++ byteBits l) = c :: l
    rw [bytes_cons, bytes_bytes l]
theorem num16 (v : Nat) : numBits v 16 = numBits (v % 256) 8 ++ numBits (v / 256) 8 := by
  rw [num8, num8]
  simp [numBits, List.range, List.range.loop]
  omega
/-- The first five bytes of a stored block. -/
def head5 (n : Nat) : List UInt8 := [1, UInt8.ofNat (n % 256), UInt8.ofNat (n / 256), UInt8.ofNat ((65535 - n) % 256), UInt8.ofNat ((65535 - n) / 256)]
theorem u8_back (n : Nat) (h : n < 256) : (UInt8.ofNat n).toNat = n := by simp; omega
theorem bytes_0 (d : List UInt8) (h : d.length ≤ 65535) : toBytes (packed0 d) = head5 d.length ++ d := by
  rw [← bytes_bytes (head5 d.length ++ d)]
  congr 1
  have e : byteBits (head5 d.length ++ d) = numBits 1 8 ++ (numBits (d.length % 256) 8 ++ (numBits (d.length / 256) 8 ++ (numBits ((65535 - d.length) % 256) 8 ++ (numBits ((65535 - d.length) / 256) 8 ++ byteBits d)))) := by
    unfold head5 byteBits
    simp only [List.cons_append, List.nil_append, List.flatMap_cons]
    rw [u8_back _ (by omega), u8_back _ (by omega), u8_back _ (by omega), u8_back _ (by omega)]
    rfl
  rw [e]
  unfold packed0 storedBits
  rw [num16 d.length, num16 (65535 - d.length)]
  simp only [List.append_assoc]
  rfl
end Pk
end Go.Proofs.YtjjjlilflbddoaaDoor
