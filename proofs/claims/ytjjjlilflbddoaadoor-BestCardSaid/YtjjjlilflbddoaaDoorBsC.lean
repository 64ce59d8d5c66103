import Derived.Test.YtjjjlilflbddoaaDoorBsB
import Derived.Test.YtjjjlilflbddoaaDoorGRtG
/-
  No lengths are better: what the law finds.
-/
namespace Go.Proofs.YtjjjlilflbddoaaDoor
open Go.RowKit Pm

theorem cost_same {n : Nat} {c c' l l' : Nat → Nat} (h : ∀ i, i < n → c i = c' i ∧ l i = l' i) : Pk.cost n c l = Pk.cost n c' l' := by
  unfold Pk.cost
  exact sm_congr (fun i hi => by have := h i (List.mem_range.1 hi); rw [this.1, this.2])
theorem cov_same {n : Nat} {c c' l l' : Nat → Nat} (h : ∀ i, i < n → c i = c' i ∧ l i = l' i) : Cov n c l ↔ Cov n c' l' := by
  constructor
  · intro k i hi; have := k i hi; rw [(h i hi).1, (h i hi).2] at this; exact this
  · intro k i hi; have := k i hi; rw [← (h i hi).1, ← (h i hi).2] at this; exact this
theorem CostP.same {n : Nat} {c c' l l' : Nat → Nat} {w w' : World} {e : Ending} (h : ∀ i, i < n → c i = c' i ∧ l i = l' i) (k : CostP n c l w e w') : CostP n c' l' w e w' := by
  unfold CostP at *
  rw [cost_same h, cov_same h] at k
  exact k
theorem CostP.yes {n : Nat} {c l : Nat → Nat} {w w' : World} {e : Ending} (h : Cov n c l) (k : CostP n c l w e w') : e = .returned (.tuple #[.int .i64 (Pk.cost n c l : Nat), .bool true]) ∧ Fr No w w' := by
  rcases k with ⟨⟨_, k⟩ | ⟨k, _⟩, f⟩
  · exact ⟨k, f⟩
  · exact absurd h k
theorem CostP.no {n : Nat} {c l : Nat → Nat} {w w' : World} {e : Ending} (h : ¬ Cov n c l) (k : CostP n c l w e w') : e = .returned (.tuple #[.int .i64 0, .bool false]) ∧ Fr No w w' := by
  rcases k with ⟨⟨k, _⟩ | ⟨_, k⟩, f⟩
  · exact absurd k h
  · exact ⟨k, f⟩
/-- Either way. -/
theorem CostP.some {n : Nat} {c l : Nat → Nat} {w w' : World} {e : Ending} (h3 : ∀ i, c i ≤ 3000) (h15 : ∀ i, l i ≤ 15) (k : CostP n c l w e w') : ∃ (z : Bool) (C : Nat), e = .returned (.tuple #[.int .i64 (C : Nat), .bool z]) ∧ C ≤ 45000 * n ∧ (z = true → Cov n c l ∧ C = Pk.cost n c l) ∧ Fr No w w' := by
  rcases k with ⟨⟨hc, k⟩ | ⟨_, k⟩, f⟩
  · exact ⟨true, _, k, cost_le c l h3 h15 n, fun _ => ⟨hc, rfl⟩, f⟩
  · exact ⟨false, 0, k, Nat.zero_le _, fun h => (Bool.noConfusion h), f⟩
theorem symY_count (ts : List (Nat × Nat)) (i : Nat) : (symY ts).count i = Pk.docSym ts i := by
  unfold symY Pk.docSym
  rw [List.count_append, List.count_singleton]
  by_cases h1 : i = 256
  · subst h1; simp
  · have e1 : (256 == i) = false := by simp; omega
    rw [if_neg h1, e1]; rfl
theorem cf_sym (ts : List (Nat × Nat)) (i : Nat) (h : i < 286) : cf (cntL 286 (symY ts)) i = Pk.docSym ts i := by
  unfold cf; rw [cntL_get 286 _ i h, symY_count]
theorem cf_far (ts : List (Nat × Nat)) (i : Nat) (h : i < 30) : cf (cntL 30 (farY ts)) i = Pk.farCnt ts i := by
  unfold cf; rw [cntL_get 30 _ i h]; rfl
theorem cf_cntL_le (n : Nat) (Y : List Nat) (h : Y.length ≤ 3000) (i : Nat) : cf (cntL n Y) i ≤ 3000 := by
  unfold cf
  by_cases hi : i < n
  · rw [cntL_get n Y i hi]; have := count_len Y i; omega
  · rw [List.getD, List.getElem?_eq_none (by rw [cntL_len]; omega)]; exact Nat.zero_le _
theorem cf_take (l : List Nat) (n i : Nat) (h : i < n) : cf (l.take n) i = cf l i := by
  unfold cf; rw [List.getD, List.getD, List.getElem?_take_of_lt h]
theorem cf_take_le (l : List Nat) (n i : Nat) : cf (l.take n) i ≤ cf l i := by
  rcases Nat.lt_or_ge i n with h | h
  · rw [cf_take l n i h]; exact Nat.le_refl _
  · unfold cf; rw [List.getD, List.getElem?_eq_none (by rw [List.length_take]; omega)]; exact Nat.zero_le _
theorem docSym_le (ts : List (Nat × Nat)) (h : ts.length ≤ 1500) (i : Nat) : Pk.docSym ts i ≤ 3000 := by
  rw [← symY_count]
  have h1 := count_len (symY ts) i
  have h2 := symY_len ts
  omega
theorem farCnt_le (ts : List (Nat × Nat)) (h : ts.length ≤ 1500) (i : Nat) : Pk.farCnt ts i ≤ 3000 := by
  have h1 := count_len (farY ts) i
  have h2 := farY_len ts
  have h3 : Pk.farCnt ts i = (farY ts).count i := rfl
  omega
theorem cov_sym {ts : List (Nat × Nat)} {ls : List Nat} (H : Bst (Pk.symC ts) 15 ls) : Cov 286 (Pk.docSym ts) (cf ls) := fun i hi hp => by
  refine (H.pos i).2 ?_
  rw [Pk.cf_symC, if_pos (by omega)]
  unfold Pk.symCnt
  unfold Pk.docSym at hp
  omega
theorem cov_far {ts : List (Nat × Nat)} {lf : List Nat} (H : Bst (Pk.farC ts) 15 lf) : Cov 30 (Pk.farCnt ts) (cf lf) := fun i hi hp => by
  refine (H.pos i).2 ?_
  rw [Pk.cf_farC, if_pos (by omega)]
  exact hp
theorem share_few {b : List Nat} (h : b.sum ≤ 1) : Gz.share b ≤ 32768 := by
  rcases (few_iff b).2 h with h | ⟨_, h⟩
  · rw [(posN_zero b h).2]; omega
  · rw [h]; decide
/-- The document's own word, whole. -/
theorem best_both {d : List UInt8} {ls lf a b : List Nat} (H1 : Bst (Pk.symC (Pk.toks d)) 15 ls) (H2 : Bst (Pk.farC (Pk.toks d)) 15 lf) (la : Lens a) (lb : Lens b) (hr : Rf.right a b = true) (ca : Cov 286 (Pk.docSym (Pk.toks d)) (cf a)) (cb : Cov 30 (Pk.farCnt (Pk.toks d)) (cf b)) :
    Pk.cost 286 (Pk.docSym (Pk.toks d)) (cf ls) + Pk.cost 30 (Pk.farCnt (Pk.toks d)) (cf lf) ≤ Pk.cost 286 (Pk.docSym (Pk.toks d)) (cf a) + Pk.cost 30 (Pk.farCnt (Pk.toks d)) (cf b) := by
  unfold Rf.right at hr
  simp only [Bool.and_eq_true, Bool.or_eq_true, decide_eq_true_eq] at hr
  obtain ⟨⟨h1, _⟩, h2⟩ := hr
  have s1 : Gz.share a = 32768 := by unfold Gz.complete at h1; exact beq_iff_eq.1 h1
  have s2 : Gz.share b ≤ 32768 := by
    rcases h2 with h2 | h2
    · exact share_few h2
    · unfold Gz.complete at h2; exact Nat.le_of_eq (beq_iff_eq.1 h2)
  exact Nat.add_le_add (Pk.best_sym H1 la s1 ca) (Pk.best_far H2 lb s2 cb)
/-- A row of numbers in memory, at a place. -/
def RowAt (w : World) (b off : Nat) (l : List Nat) : Prop := b < w.heap.size ∧ ∀ i, i < l.length → w.cell? ⟨b, off + i, none⟩ = some (.int .i64 (l.getD i 0 : Nat))
theorem RowAt.fr {w w' : World} {b off : Nat} {l : List Nat} (h : RowAt w b off l) (f : Fr No w w') : RowAt w' b off l := ⟨Nat.lt_of_lt_of_le h.1 f.size, fun i hi => (f.cell (p := ⟨b, off + i, none⟩) h.1 (no_no _)).trans (h.2 i hi)⟩
theorem RowAt.ins {w : World} {b off n c : Nat} {l : List Nat} (h : RowAt w b off l) (hn : n = l.length) : Ins w b (.slice (some ⟨b, off, none⟩) n c) l := ⟨_, off, c, by rw [hn], fun i hi => ⟨rfl, h.1, h.2 i hi⟩⟩
theorem RowAt.take {w : World} {b off k n c : Nat} {l : List Nat} (h : RowAt w b off l) (hk : k ≤ l.length) (hn : n = k) : Ins w b (.slice (some ⟨b, off, none⟩) n c) (l.take k) := by
  have hl : (l.take k).length = k := by rw [List.length_take]; omega
  refine ⟨_, off, c, by rw [hn, hl], fun i hi => ⟨rfl, h.1, ?_⟩⟩
  rw [h.2 i (by omega), List.getD, List.getD, List.getElem?_take_of_lt (by omega)]
theorem RowAt.drop {w : World} {b off k n c : Nat} {l : List Nat} (h : RowAt w b off l) (hn : n = l.length - k) : Ins w b (.slice (some ⟨b, off + k, none⟩) n c) (l.drop k) := by
  refine ⟨_, off + k, c, by rw [hn, List.length_drop], fun i hi => ⟨rfl, h.1, ?_⟩⟩
  rw [List.length_drop] at hi
  rw [Nat.add_assoc, h.2 (k + i) (by omega), List.getD, List.getD, List.getElem?_drop]
theorem cf_drop (l : List Nat) (n i : Nat) : cf (l.drop n) i = cf l (n + i) := by
  unfold cf; rw [List.getD, List.getD, List.getElem?_drop]
theorem row_ivs {w : World} {b : Nat} {t : TypeId} {l : List Nat} (h : w.heap[b]? = some (.cells (ivs l) t (0, 0))) : RowAt w b 0 l := ⟨lt_of h, fun i hi => by rw [Nat.zero_add, cell_of h, ivs_get hi]⟩
/-- The cost of the symbols, of the distances. -/
theorem costS_any {sb bl : Nat} {ts : List (Nat × Nat)} {vl : Value} {l : List Nat} (W : World) (hr : RowAt W sb 0 (cntL 286 (symY ts))) (hl : Ins W bl vl l) (h286 : l.length = 286) (h15 : ∀ i, cf l i ≤ 15) (hts : ts.length ≤ 1500) :
    Calls Tryd.prog 28 #[.slice (some ⟨sb, 0, none⟩) 286 286, vl] W (CostP 286 (Pk.docSym ts) (cf l) W) := by
  have hc := hr.ins (n := 286) (c := 286) (by rw [cntL_len])
  have := rcost_any sb bl _ vl _ l W hc hl (by rw [cntL_len]; omega) (by rw [cntL_len]; omega) (cf_cntL_le 286 _ (by rw [symY_len]; omega)) h15
  rw [cntL_len] at this
  exact this.mono (fun e w' k => k.same (fun i hi => ⟨cf_sym ts i hi, rfl⟩))
theorem costF_any {sb bl : Nat} {ts : List (Nat × Nat)} {vl : Value} {l : List Nat} (W : World) (hr : RowAt W sb 0 (cntL 30 (farY ts))) (hl : Ins W bl vl l) (h30 : l.length = 30) (h15 : ∀ i, cf l i ≤ 15) (hts : ts.length ≤ 1500) :
    Calls Tryd.prog 28 #[.slice (some ⟨sb, 0, none⟩) 30 30, vl] W (CostP 30 (Pk.farCnt ts) (cf l) W) := by
  have hc := hr.ins (n := 30) (c := 30) (by rw [cntL_len])
  have h3 := farY_len ts
  have := rcost_any sb bl _ vl _ l W hc hl (by rw [cntL_len]; omega) (by rw [cntL_len]; omega) (cf_cntL_le 30 _ (by omega)) h15
  rw [cntL_len] at this
  exact this.mono (fun e w' k => k.same (fun i hi => ⟨cf_far ts i hi, rfl⟩))
/-- The lengths that the law finds in what was read. -/
theorem found_key {s t : ByteArray} {lim k n : Nat} {w w' : World} {e : Ending} {key : List Nat} {ts : List (Nat × Nat)} (h0 : 0 < key.length) (h : RReadP s.data.toList lim w ({ pos := n, st := 0, out := t.data.toList, keys := [key], kinds := [k], toks := ts }, true) e w') :
    ∃ g cap kb ko kc, w'.cell? ⟨w.heap.size, 7, none⟩ = some (.slice (some ⟨g, 0, none⟩) 1 cap) ∧ g < w'.heap.size ∧ w'.cell? ⟨g, 0, none⟩ = some (.slice (some ⟨kb, ko, none⟩) key.length kc) ∧ key.length ≤ kc ∧ RowAt w' kb ko key := by
  obtain ⟨_, _, K, s1, w1, hL, hda, hf⟩ := h
  obtain ⟨ks, hr, hkk⟩ := hL.rows
  have hrow : w'.ownsRow w.heap.size (ety 1) (esz 1) (s1.row 1) 1 ks := ownsRow_fr (hr.row 1) hf (fun g hg => one_ne (hr.far 1 g hg).1)
  obtain ⟨b, hb, ⟨a, off, c1, e1, hc⟩, a2, n2, c2, e2, hle⟩ := hkk 0 (by show 0 < 1; omega)
  have ek : ([key] : List (List Nat)).getD 0 [] = key := rfl
  have e1 : ks.getD 0 undef = .slice a key.length c1 := e1
  have hc : ∀ i, i < key.length → a = some ⟨b, off, none⟩ ∧ b < w1.heap.size ∧ w1.cell? ⟨b, off + i, none⟩ = some (.int .i64 (key.getD i 0 : Nat)) := hc
  obtain ⟨rfl, hbl, _⟩ := hc 0 h0
  rw [e1] at e2
  injection e2 with _ e3 e4
  subst e3
  subst e4
  rcases hrow.2 with ⟨_, h1⟩ | ⟨g, cap, cur, hv, _, hg, hcc, _, hs, ht⟩
  · exact absurd h1 (by omega)
  · have hkl : ks.length = 1 := by have := hrow.1; exact this
    refine ⟨g, cap, b, off, c1, ?_, lt_of hg, ?_, hle, Nat.lt_of_lt_of_le hbl hf.size, fun i hi => ?_⟩
    · rw [cell_of hda, ← hv]; rfl
    · rw [cell_of hg, ← Array.getElem?_toList]
      have ht' : cur.toList.take 1 = ks := ht
      have h5 : (cur.toList.take 1)[0]? = some (ks.getD 0 undef) := by
        rw [ht', List.getD, List.getElem?_eq_getElem (by omega)]; rfl
      rw [List.getElem?_take_of_lt (by omega), e1] at h5
      exact h5
    · exact (hf.cell (p := ⟨b, off + i, none⟩) hbl (one_ne (hL.ne hb))).trans (hc i hi).2.2
end Go.Proofs.YtjjjlilflbddoaaDoor
