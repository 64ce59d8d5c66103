import Derived.Test.YtjjjlilflbddoaaGreatDoorGPkL
/-
  The counted symbols of a text, and lengths that are best for them. Nothing of the dump is imported.
-/
namespace Go.Proofs.YtjjjlilflbddoaaGreatDoor
namespace Pk
open Pm

/-- How often each symbol is written, and each distance. -/
def symCnt (ts : List (Nat × Nat)) (i : Nat) : Nat := (if i = 256 then 1 else 0) + (ts.map symOf).count i + (if ts = [] ∧ i = 0 then 1 else 0)
def farCnt (ts : List (Nat × Nat)) (i : Nat) : Nat := ((ts.filter (fun t => t.2 != 0)).map (fun t => farSym t.2)).count i
def symC (ts : List (Nat × Nat)) : List Nat := (List.range 288).map (symCnt ts)
def farC (ts : List (Nat × Nat)) : List Nat := (List.range 32).map (farCnt ts)
def telCnt (us : List (Nat × Nat)) (i : Nat) : Nat := (us.map Prod.fst).count i
def telC (us : List (Nat × Nat)) : List Nat := (List.range 19).map (telCnt us)
theorem map_getD (n : Nat) (f : Nat → Nat) (i : Nat) : ((List.range n).map f).getD i 0 = if i < n then f i else 0 := by
  rw [List.getD, List.getElem?_map]
  by_cases h : i < n
  · rw [List.getElem?_range h, if_pos h]; rfl
  · rw [List.getElem?_eq_none (by simp; omega), if_neg h]; rfl
theorem cf_symC (ts : List (Nat × Nat)) (i : Nat) : cf (symC ts) i = if i < 288 then symCnt ts i else 0 := map_getD _ _ _
theorem cf_farC (ts : List (Nat × Nat)) (i : Nat) : cf (farC ts) i = if i < 32 then farCnt ts i else 0 := map_getD _ _ _
theorem cf_telC (us : List (Nat × Nat)) (i : Nat) : cf (telC us) i = if i < 19 then telCnt us i else 0 := map_getD _ _ _

/-! Shares. -/
theorem cand_eq {a b : List Nat} (hl : a.length = b.length) (h : ∀ i, 0 < cf a i ↔ 0 < cf b i) : cand a = cand b := by
  unfold cand
  rw [hl]
  apply List.filter_congr
  intro i _
  rw [decide_eq_decide]
  exact h i
theorem share_cand (l : List Nat) (hl : Lens l) : Gz.share l = sm (cand l) (fun i => 2 ^ (15 - cf l i)) := by
  have key : ∀ k, k ≤ l.length → Gz.share (l.take k) = sm ((List.range k).filter (fun i => decide (0 < cf l i))) (fun i => 2 ^ (15 - cf l i)) := by
    intro k
    induction k with
    | zero => intro _; rfl
    | succ k ih =>
      intro h
      rw [share_take l k (by omega), ih (by omega), List.range_succ, List.filter_append, sm_app]
      congr 1
      have h15 := hl k (by omega)
      by_cases h0 : 0 < cf l k
      · rw [List.filter_cons_of_pos (by simpa using h0), List.filter_nil, sm_cons, sm_nil, Nat.add_zero]
        have h0' : 0 < l.getD k 0 := h0
        unfold shareOf
        rw [if_pos h0', show (32768 : Nat) = 2 ^ 15 from rfl, Nat.pow_div (by omega) (by decide)]
        rfl
      · rw [List.filter_cons_of_neg (by simpa using h0), List.filter_nil, sm_nil]
        have h0' : ¬ 0 < l.getD k 0 := h0
        unfold shareOf
        rw [if_neg h0']
  have := key l.length (Nat.le_refl _)
  rw [List.take_length] at this
  exact this
section
variable {c ln : List Nat} {L : Nat} (H : Bst c L ln)
theorem bst_lens15 (H : Bst c L ln) (hL : L ≤ 15) : Lens ln := fun i _ => by have := H.le i; unfold cf at this; omega
theorem bst_cand (H : Bst c L ln) : cand ln = cand c := cand_eq H.len H.pos
theorem bst_share (H : Bst c L ln) (hL : L ≤ 15) (h2 : 2 ≤ (cand c).length) : Gz.share ln = 32768 := by
  rw [share_cand ln (bst_lens15 H hL), bst_cand H]
  have h := H.full h2
  have e : sm (cand c) (fun i => 2 ^ (15 - cf ln i)) = sm (cand c) (fun i => 2 ^ (15 - L) * 2 ^ (L - cf ln i)) := sm_congr (fun i _ => by
    have := H.le i
    rw [← Nat.pow_add]
    congr 1
    omega)
  rw [e, sm_mul, h, ← Nat.pow_add, show 15 - L + L = 15 by omega]
theorem bst_sum (H : Bst c L ln) (h1 : (cand c).length ≤ 1) : ln.sum ≤ 1 := by
  have key : ∀ k, (ln.take k).sum ≤ ((List.range k).filter (fun i => decide (0 < cf ln i))).length := by
    intro k
    induction k with
    | zero => simp
    | succ k ih =>
      rw [List.range_succ, List.filter_append, List.length_append]
      by_cases hk : k < ln.length
      · rw [sum_take_succ ln k hk]
        have hone : cf ln k ≤ 1 := by
          rcases Nat.lt_or_ge (cand c).length 1 with h | h
          · have : ¬ 0 < cf c k := fun h2 => by
              have := (cand_mem c k).2 h2
              have := List.length_pos_of_mem this
              omega
            have := mt (H.pos k).1 this
            omega
          · exact H.one (by omega) k
        by_cases h0 : 0 < cf ln k
        · rw [List.filter_cons_of_pos (by simpa using h0)]
          unfold cf at hone
          rw [List.filter_nil, List.length_singleton]
          omega
        · unfold cf at h0
          omega
      · rw [List.take_of_length_le (by omega)]
        rw [List.take_of_length_le (by omega)] at ih
        omega
  have h := key ln.length
  rw [List.take_length] at h
  have e : ((List.range ln.length).filter (fun i => decide (0 < cf ln i))) = cand ln := rfl
  rw [e, bst_cand H] at h
  omega
theorem bst_share_le (H : Bst c L ln) (hL : L ≤ 15) : Gz.share ln ≤ 32768 := by
  rcases Nat.lt_or_ge (cand c).length 2 with h | h
  · rw [share_cand ln (bst_lens15 H hL), bst_cand H]
    match hc : cand c, h with
    | [], _ => exact Nat.zero_le _
    | [i], _ =>
      rw [sm_cons, sm_nil, Nat.add_zero]
      exact Nat.pow_le_pow_right (by decide) (by omega : 15 - cf ln i ≤ 15)
    | _ :: _ :: _, h => exact absurd h (by simp)
  · rw [bst_share H hL h]; exact Nat.le_refl _
end
theorem two_of {c : List Nat} {i j : Nat} (h : i ≠ j) (hi : 0 < cf c i) (hj : 0 < cf c j) : 2 ≤ (cand c).length := by
  have h1 := (cand_mem c i).2 hi
  have h2 := (cand_mem c j).2 hj
  match hc : cand c with
  | [] => rw [hc] at h1; simp at h1
  | [x] =>
    rw [hc] at h1 h2
    rw [List.mem_singleton] at h1 h2
    omega
  | _ :: _ :: l => simp
/-- Of symbols there are two at least. -/
theorem sym_two (d : List UInt8) : 2 ≤ (cand (symC (toks d))).length := by
  have h256 : 0 < cf (symC (toks d)) 256 := by rw [cf_symC, if_pos (by omega)]; unfold symCnt; rw [if_pos rfl]; omega
  cases ht : toks d with
  | nil =>
    rw [ht] at h256
    refine two_of (i := 0) (j := 256) (by omega) ?_ h256
    rw [cf_symC, if_pos (by omega)]
    unfold symCnt
    simp
  | cons t ts =>
    have hg := toks_good d t (by rw [ht]; simp)
    have hlt := symOf_lt (t := t) hg.1
    rw [ht] at h256
    refine two_of (i := symOf t) (j := 256) ?_ ?_ h256
    · unfold symOf
      split
      · rename_i e; have := hg.1 e; omega
      · have := (lenSym_le t.1).1; omega
    · rw [cf_symC, if_pos (by omega)]
      unfold symCnt
      rw [List.map_cons, List.count_cons]
      simp
      omega
theorem sym_pos {d : List UInt8} {t : Nat × Nat} (h : t ∈ toks d) : 0 < cf (symC (toks d)) (symOf t) := by
  have hlt := symOf_lt (t := t) (toks_good d t h).1
  rw [cf_symC, if_pos (by omega)]
  unfold symCnt
  have : 0 < ((toks d).map symOf).count (symOf t) := List.count_pos_iff.2 (List.mem_map.2 ⟨t, h, rfl⟩)
  omega
theorem far_pos {ts : List (Nat × Nat)} {t : Nat × Nat} (h : t ∈ ts) (h0 : t.2 ≠ 0) : 0 < cf (farC ts) (farSym t.2) := by
  have hlt := farSym_le t.2
  rw [cf_farC, if_pos (by omega)]
  exact List.count_pos_iff.2 (List.mem_map.2 ⟨t, List.mem_filter.2 ⟨h, by simpa using h0⟩, rfl⟩)
theorem suf_of {d : List UInt8} {ls lf : List Nat} (H1 : Bst (symC (toks d)) 15 ls) (H2 : Bst (farC (toks d)) 15 lf) : Suf ls lf (toks d) := by
  have n1 : ls.length = 288 := by rw [H1.len]; simp [symC]
  have n2 : lf.length = 32 := by rw [H2.len]; simp [farC]
  refine ⟨bst_lens15 H1 (by omega), bst_lens15 H2 (by omega), bst_share_le H1 (by omega), bst_share_le H2 (by omega), by omega, by omega, fun t ht => ?_, fun t ht h0 => ?_, ?_⟩
  · exact (H1.pos _).2 (sym_pos ht)
  · exact (H2.pos _).2 (far_pos ht h0)
  · refine (H1.pos 256).2 ?_
    rw [cf_symC, if_pos (by omega)]
    unfold symCnt
    rw [if_pos rfl]
    omega
/-- A telling list in which one symbol alone stands. -/
theorem tells_one (s : Nat) : ∀ (n : Nat) (r : List Nat) (bf : Option Nat), r.length ≤ n → (∀ x ∈ r, x ≤ 15) → (∀ t ∈ tellsFrom r bf, t.1 = s) → (s ≠ 16 ∨ bf = none → ∀ x ∈ r, x = if s < 16 then s else 0)
  | _, [], _, _, _, _, _ => fun x h => by simp at h
  | 0, l :: r, _, h, _, _, _ => by simp at h
  | n + 1, l :: r, bf, h, hx, ht, hs => by
    have h15 := hx l (by simp)
    have m := tMany_ok l r bf h15
    have m4 := tLeast_pos (tOne l r bf)
    rw [tells_at l r bf hx] at ht
    have h1 : tOne l r bf = s := ht (tOne l r bf, tMany l r bf - tLeast (tOne l r bf)) (by simp)
    have hc := tOne_cases l r bf
    rw [h1] at hc
    have hs16 : s ≠ 16 := by
      rcases hs with h2 | h2
      · exact h2
      · intro e
        rcases hc with e2 | ⟨e2, _⟩ | ⟨e2, _⟩ | ⟨_, e2, _⟩
        · omega
        · omega
        · omega
        · rw [h2] at e2; cases e2
    have hl : l = if s < 16 then s else 0 := by
      rcases hc with e2 | ⟨e2, e3, _⟩ | ⟨e2, e3, _⟩ | ⟨e2, _⟩
      · rw [if_pos (by omega), e2]
      · rw [if_neg (by omega), e3]
      · rw [if_neg (by omega), e3]
      · omega
    rw [List.length_cons] at h
    have ih := tells_one s n ((l :: r).drop (tMany l r bf)) (some l) (by rw [List.length_drop, List.length_cons]; omega) (fun x hx2 => hx x (List.mem_of_mem_drop hx2)) (fun t ht2 => ht t (List.mem_cons_of_mem _ ht2)) (.inl hs16)
    intro x hxm
    rw [← List.take_append_drop (tMany l r bf) (l :: r)] at hxm
    rcases List.mem_append.1 hxm with h3 | h3
    · rw [same_take l (l :: r) _ m.2.1] at h3
      rw [List.eq_of_mem_replicate h3]
      exact hl
    · exact ih x h3
/-- Of the symbols that tell lengths there are two at least. -/
theorem tel_two {ls lf : List Nat} (l1 : Lens ls) (l2 : Lens lf) (n1 : ls.length = 288) (s1 : Gz.share ls = 32768) (e1 : 0 < ls.getD 256 0) (hn : 257 ≤ nsy ls) (hn2 : nsy ls ≤ 288) (hz : ∀ j, nsy ls ≤ j → j < 288 → ls.getD j 0 = 0) : 2 ≤ (cand (telC (tells (allOf ls lf)))).length := by
  have h15 : ∀ x ∈ allOf ls lf, x ≤ 15 := fun x hx => by
    rcases List.mem_append.1 hx with h | h
    · exact lens_mem l1 x (List.mem_of_mem_take h)
    · exact lens_mem l2 x (List.mem_of_mem_take h)
  have hlen : nsy ls ≤ (allOf ls lf).length := by
    unfold allOf
    rw [List.length_append, List.length_take, n1]
    omega
  have hok := (tells_ok _ (allOf ls lf) none (Nat.le_refl _) h15).2
  have hpos : ∀ t ∈ tells (allOf ls lf), 0 < cf (telC (tells (allOf ls lf))) t.1 := fun t ht => by
    rw [cf_telC, if_pos (hok t ht).1]
    exact List.count_pos_iff.2 (List.mem_map.2 ⟨t, ht, rfl⟩)
  rcases Nat.lt_or_ge (cand (telC (tells (allOf ls lf)))).length 2 with h | h
  · exfalso
    obtain ⟨t0, ht0⟩ : ∃ t0, t0 ∈ tells (allOf ls lf) := by
      match he : allOf ls lf with
      | [] => rw [he] at hlen; simp at hlen; omega
      | l :: r =>
        have : tells (l :: r) = tellsFrom (l :: r) none := rfl
        rw [this, tells_at l r none (by rw [← he]; exact h15)]
        exact ⟨_, List.mem_cons_self⟩
    have hall : ∀ t ∈ tellsFrom (allOf ls lf) none, t.1 = t0.1 := fun t ht => by
      rcases Nat.decEq t.1 t0.1 with e | e
      · have := two_of e (hpos t ht) (hpos t0 ht0)
        omega
      · exact e
    have hx := tells_one t0.1 _ (allOf ls lf) none (Nat.le_refl _) h15 hall (.inr rfl)
    obtain ⟨v, hv⟩ : ∃ v, v = if t0.1 < 16 then t0.1 else 0 := ⟨_, rfl⟩
    rw [← hv] at hx
    have hg : ∀ j, j < nsy ls → ls.getD j 0 = v := fun j hj => by
      refine hx _ ?_
      unfold allOf
      refine List.mem_append.2 (.inl ?_)
      rw [List.getD, List.getElem?_eq_getElem (by omega), Option.getD_some]
      exact List.mem_iff_getElem.2 ⟨j, by rw [List.length_take]; omega, by rw [List.getElem_take]⟩
    have hv0 : 0 < v := by rw [← hg 256 (by omega)]; exact e1
    have hv15 : v ≤ 15 := by rw [← hg 256 (by omega)]; exact l1 256 (by omega)
    have key : ∀ k, k ≤ 288 → Gz.share (ls.take k) = (min k (nsy ls)) * shareOf v := by
      intro k
      induction k with
      | zero => intro _; simp [Gz.share]
      | succ k ih =>
        intro hk
        rw [share_take ls k (by omega), ih (by omega)]
        by_cases h1 : k < nsy ls
        · rw [hg k h1, Nat.min_eq_left (by omega), Nat.min_eq_left (by omega), Nat.add_mul]; omega
        · rw [hz k (by omega) (by omega), Nat.min_eq_right (by omega), Nat.min_eq_right (by omega)]; rfl
    have h2 := key 288 (Nat.le_refl _)
    rw [List.take_of_length_le (by omega), s1, Nat.min_eq_right hn2] at h2
    generalize nsy ls = N at *
    have h3 : v = 1 ∨ v = 2 ∨ v = 3 ∨ v = 4 ∨ v = 5 ∨ v = 6 ∨ v = 7 ∨ v = 8 ∨ v = 9 ∨ v = 10 ∨ v = 11 ∨ v = 12 ∨ v = 13 ∨ v = 14 ∨ v = 15 := by omega
    rcases h3 with e | e | e | e | e | e | e | e | e | e | e | e | e | e | e <;> rw [e] at h2 <;> simp [shareOf] at h2 <;> omega
  · exact h
theorem head_of {d : List UInt8} {ls lf tl : List Nat} (H1 : Bst (symC (toks d)) 15 ls) (H2 : Bst (farC (toks d)) 15 lf) (H3 : Bst (telC (tells (allOf ls lf))) 7 tl) : Head ls lf tl := by
  have n1 : ls.length = 288 := by rw [H1.len]; simp [symC]
  have n2 : lf.length = 32 := by rw [H2.len]; simp [farC]
  have n3 : tl.length = 19 := by rw [H3.len]; simp [telC]
  have l1 := bst_lens15 H1 (by omega)
  have l2 := bst_lens15 H2 (by omega)
  have s1 := bst_share H1 (by omega) (sym_two d)
  have hS := suf_of H1 H2
  have zero : ∀ {c ln : List Nat} {L : Nat}, Bst c L ln → ∀ j, cf c j = 0 → ln.getD j 0 = 0 := fun H j h => by
    have := mt (H.pos j).1 (by omega)
    unfold cf at this
    omega
  have z1 : ∀ j, 286 ≤ j → j < 288 → ls.getD j 0 = 0 := fun j h1 h2 => zero H1 j (by
    rw [cf_symC, if_pos (by omega)]
    unfold symCnt
    rw [if_neg (by omega), if_neg (by omega)]
    have : ((toks d).map symOf).count j = 0 := List.count_eq_zero_of_not_mem (fun hm => by
      obtain ⟨t, ht, e⟩ := List.mem_map.1 hm
      have := symOf_lt (t := t) (toks_good d t ht).1
      omega)
    omega)
  have z2 : ∀ j, 30 ≤ j → j < 32 → lf.getD j 0 = 0 := fun j h1 h2 => zero H2 j (by
    rw [cf_farC, if_pos (by omega)]
    exact List.count_eq_zero_of_not_mem (fun hm => by
      obtain ⟨t, _, e⟩ := List.mem_map.1 hm
      have := farSym_le t.2
      omega))
  have hu := upTo_le ls 288
  have hu2 := hu.2.2 256 (by omega) (by have := hS.en; omega)
  have h2 := tel_two (lf := lf) l1 l2 n1 s1 hS.en (by unfold nsy; omega) hu.1 hu.2.1
  refine ⟨l1, l2, n1, n2, s1, hS.en, z1, z2, ?_, n3, fun i => H3.le i, bst_share H3 (by omega) h2, fun t ht => ?_⟩
  · rcases Nat.lt_or_ge (cand (farC (toks d))).length 2 with h | h
    · exact .inl (bst_sum H2 (by omega))
    · exact .inr (bst_share H2 (by omega) h)
  · have h15 : ∀ x ∈ allOf ls lf, x ≤ 15 := fun x hx => by
      rcases List.mem_append.1 hx with h | h
      · exact lens_mem l1 x (List.mem_of_mem_take h)
      · exact lens_mem l2 x (List.mem_of_mem_take h)
    have hok := (tells_ok _ (allOf ls lf) none (Nat.le_refl _) h15).2 t ht
    refine (H3.pos _).2 ?_
    rw [cf_telC, if_pos hok.1]
    exact List.count_pos_iff.2 (List.mem_map.2 ⟨t, ht, rfl⟩)
end Pk
end Go.Proofs.YtjjjlilflbddoaaGreatDoor
/-
  How long packed data are; and no lengths are better. Nothing of the dump is imported.
-/
namespace Go.Proofs.YtjjjlilflbddoaaGreatDoor
namespace Pk
open Pm

theorem wb15 {l : List Nat} (hl : Lens l) (s : Nat) : (wbits (words l) s).length ≤ 15 := wbits_len l hl s
theorem tok_size {ls lf : List Nat} (h1 : Lens ls) (h2 : Lens lf) (t : Nat × Nat) (h : t.2 ≠ 0 → 3 ≤ t.1) : (tokBits ls lf t).length ≤ 16 * (if t.2 = 0 then 1 else t.1) := by
  have a1 := wb15 h1 (symOf t)
  have a2 := wb15 h2 (farSym t.2)
  have a3 : Gz.lenBits (lenSym t.1) ≤ 5 := by have := (lenSym_le t.1).2; unfold Gz.lenBits; split <;> omega
  have a4 := distBits_le (farSym t.2) (farSym_le t.2)
  unfold tokBits farBits
  by_cases e : t.2 = 0
  · rw [if_pos e, if_pos e, List.append_nil]; omega
  · have := h e
    rw [if_neg e, if_neg e]
    simp only [List.length_append, num_len]
    omega
theorem toks_size {ls lf : List Nat} (h1 : Lens ls) (h2 : Lens lf) (d : List UInt8) : ∀ (n q : Nat), d.length - q ≤ n → ((toksFrom d q).flatMap (tokBits ls lf)).length ≤ 16 * (d.length - q)
  | n, q, h => by
    by_cases hq : q < d.length
    · obtain ⟨k1, k2⟩ := tok_ok d q
      have ha := adv_pos d q
      have hb := adv_le d q hq
      rw [toksFrom_at hq, List.flatMap_cons, List.length_append]
      have hs := tok_size h1 h2 (tok d q) (fun e => (k1.far e).1)
      rw [← k2] at hs
      cases n with
      | zero => omega
      | succ n =>
        have ih := toks_size h1 h2 d n (q + adv d q) (by omega)
        omega
    · rw [toksFrom_end (by omega)]
      exact Nat.zero_le _
theorem syms_size {ls lf : List Nat} (h1 : Lens ls) (h2 : Lens lf) (d : List UInt8) : (symsBits ls lf (toks d)).length ≤ 16 * d.length + 15 := by
  have := toks_size h1 h2 d d.length 0 (by omega)
  rw [toksFrom_zero] at this
  have := wb15 h1 256
  unfold symsBits
  rw [List.length_append]
  omega
theorem tBits_le (s : Nat) : tBits s ≤ 7 := by unfold tBits; split <;> (try split) <;> (try split) <;> omega
theorem tell_size {tl : List Nat} (h : Lens tl) : ∀ us : List (Nat × Nat), (tellBits tl us).length ≤ 22 * us.length
  | [] => Nat.le_refl _
  | t :: us => by
    have ih := tell_size h us
    have h1 := wb15 h t.1
    have h2 := tBits_le t.1
    unfold tellBits at ih ⊢
    rw [List.flatMap_cons, List.length_append, List.length_cons]
    unfold tellBit at ih ⊢
    rw [List.length_append, num_len]
    omega
theorem first_size (tl : List Nat) : ∀ n, (firstBits tl n).length = 3 * n
  | 0 => rfl
  | n + 1 => by
    have ih := first_size tl n
    unfold firstBits at ih ⊢
    rw [List.range_succ, List.flatMap_append, List.length_append, ih]
    simp [num_len]
    omega
theorem head_size {ls lf tl : List Nat} (H : Head ls lf tl) : (headBits ls lf tl).length ≤ 7100 := by
  have hl7 : Lens tl := fun i _ => by have := H.l3 i; omega
  have h1 := tell_size hl7 (tells (allOf ls lf))
  have h2 := (tells_ok _ (allOf ls lf) none (Nat.le_refl _) (all_15 H)).1
  have h3 := all_len H
  have h4 := nsy_ok H
  have h5 := nds_ok H
  have h6 := cnt_le tl 19 (by omega)
  have h7 : (tells (allOf ls lf)).length ≤ (allOf ls lf).length := h2
  unfold headBits
  rw [List.length_append, List.length_append, List.length_append, List.length_append, num_len, num_len, num_len, first_size]
  omega
theorem size1 (d : List UInt8) (hd : d.length ≤ 1500) : (packed1 d).length ≤ 32000 := by
  have := syms_size (fixed_suf d).l1 (fixed_suf d).l2 d
  unfold packed1
  rw [List.length_append, List.length_append, num_len, num_len]
  omega
theorem size2 (d : List UInt8) {ls lf tl : List Nat} (H : Head ls lf tl) (hd : d.length ≤ 1500) : (packed2 d ls lf tl).length ≤ 32000 := by
  have h1 := syms_size H.l1 H.l2 d
  have h2 := head_size H
  unfold packed2
  rw [List.length_append, List.length_append, List.length_append, num_len, num_len]
  omega
theorem size0 (d : List UInt8) : (packed0 d).length = 40 + 8 * d.length := by
  unfold packed0 storedBits
  rw [List.length_append, List.length_append, List.length_append, pad_len, num_len, num_len, byte_len, List.length_append, num_len, num_len]

/-! No lengths are better. -/
end Pk
end Go.Proofs.YtjjjlilflbddoaaGreatDoor
