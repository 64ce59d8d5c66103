import Derived.Test.YtjjjlilflbddoaaDoorGPure
import Derived.Test.YtjjjlilflbddoaaDoorGRStor
/-
  The document's reading against the program's.
-/
namespace Go.Proofs.YtjjjlilflbddoaaDoor
open Go.RowKit

/-- What is met has a number. -/
theorem num_bad {d : List UInt8} {n p k : Nat} (h : Gz.num d n p = .error k) : k = 2 := by
  unfold Gz.num at h; split at h
  · cases h
  · injection h with e; exact e.symm
theorem bind_bad {α β : Type} {r : Gz.Out α} {f : α → Nat → Gz.Out β} {k : Nat} (h : r.bind f = .error k) : (r = .error k) ∨ ∃ a p, r = .ok (a, p) ∧ f a p = .error k := by
  cases r with
  | error j => left; injection (show (Except.error j : Gz.Out β) = .error k from h) with e; rw [e]
  | ok o => obtain ⟨a, p⟩ := o; right; exact ⟨a, p, rfl, h⟩
theorem iterN_bad {σ ρ : Type} {N : Nat} {step : σ → Nat → Gz.Out (σ ⊕ ρ)} (hs : ∀ s p k, step s p = .error k → k ≠ 0) : ∀ (n : Nat) (s : σ) (p k : Nat), Gz.iterN N step n s p = .error k → k ≠ 0
  | 0, s, p, k, h => by
    unfold Gz.iterN at h
    split at h
    · rename_i k' hk; injection h with e; rw [← e]; exact hs _ _ _ hk
    · cases h
    · injection h with e; omega
  | n + 1, s, p, k, h => by
    unfold Gz.iterN at h
    split at h
    · rename_i k' hk; injection h with e; rw [← e]; exact hs _ _ _ hk
    · cases h
    · split at h
      · exact iterN_bad hs n _ _ _ h
      · injection h with e; omega
theorem iter_badk {σ ρ : Type} {N : Nat} {step : σ → Nat → Gz.Out (σ ⊕ ρ)} (hs : ∀ s p k, step s p = .error k → k ≠ 0) {s : σ} {p k : Nat} (h : Gz.iter N step s p = .error k) : k ≠ 0 := iterN_bad hs _ _ _ _ h
theorem sym_bad {d : List UInt8} {c : Gz.Code} {p k : Nat} (h : Gz.sym d c p = .error k) : k ≠ 0 := by
  have := symGo_bad d c _ _ _ _ _ _ _ h; omega
theorem told_bad {d : List UInt8} {c : Gz.Code} {n p k : Nat} (h : Gz.told d c n p = .error k) : k ≠ 0 := by
  refine iter_badk ?_ h
  intro l p k h
  unfold Gz.toldStep at h
  split at h
  · rcases bind_bad h with e | ⟨s, q, _, e⟩
    · exact sym_bad e
    · rcases bind_bad e with e | ⟨x, q2, _, e⟩
      · have := run_bad e; omega
      · split at e
        · injection e with e; omega
        · split at e
          · injection e with e; omega
          · cases e
  · cases h
theorem tellGo_bad {d : List UInt8} : ∀ {n i p k : Nat} {l : List Nat}, Gz.tellGo d n i l p = .error k → k = 2
  | 0, _, _, _, _, h => by cases h
  | n + 1, i, p, k, l, h => by
    unfold Gz.tellGo at h
    rcases bind_bad h with e | ⟨_, _, _, e⟩
    · exact num_bad e
    · exact tellGo_bad e
theorem lens_bad {d : List UInt8} {p k : Nat} (h : Rf.lens d p = .error k) : k ≠ 0 := by
  unfold Rf.lens at h
  rcases bind_bad h with e | ⟨_, _, _, e⟩
  · have := num_bad e; omega
  rcases bind_bad e with e | ⟨_, _, _, e⟩
  · have := num_bad e; omega
  rcases bind_bad e with e | ⟨_, _, _, e⟩
  · have := num_bad e; omega
  split at e
  · injection e with e; omega
  rcases bind_bad e with e | ⟨_, _, _, e⟩
  · have := tellGo_bad e; omega
  split at e
  · rcases bind_bad e with e | ⟨_, _, _, e⟩
    · exact told_bad e
    · split at e
      · cases e
      · injection e with e; omega
  · injection e with e; omega

/-- The two readings agree. -/
def Agree (r : Gz.Out (List UInt8)) (y : Rf.D) : Prop := match r with
  | .ok (o, q) => y.st = 0 ∧ y.out = o ∧ y.pos = q
  | .error k => y.st = k ∧ k ≠ 0

theorem copy_agree (lim far : Nat) : ∀ (n : Nat) (x : Rf.D), x.st = 0 → match Gz.copyGo lim far n x.out with
    | some o => (Rf.copyN lim far n x).st = 0 ∧ (Rf.copyN lim far n x).out = o ∧ (Rf.copyN lim far n x).pos = x.pos
    | none => (Rf.copyN lim far n x).st = 8
  | 0, x, h => ⟨h, rfl, rfl⟩
  | n + 1, x, h => by
    unfold Gz.copyGo Rf.copyN
    rw [if_pos h]
    by_cases hl : lim ≤ x.out.length
    · rw [if_pos hl]
      have e : Rf.put lim x (x.out.getD (x.out.length - far) 0) = { x with st := 8 } := by unfold Rf.put; rw [if_pos hl]
      rw [e, copyN_bad _ _ _ _ (by show ¬ 8 = 0; omega)]
    · rw [if_neg hl]
      have e : Rf.put lim x (x.out.getD (x.out.length - far) 0) = { x with out := x.out ++ [x.out.getD (x.out.length - far) 0] } := by unfold Rf.put; rw [if_neg hl]
      rw [e]
      exact copy_agree lim far n { x with out := x.out ++ [x.out.getD (x.out.length - far) 0] } h

theorem dist_bad {d : List UInt8} {c : Gz.Code} {p k : Nat} (h : Gz.dist d c p = .error k) : k ≠ 0 := by
  unfold Gz.dist at h
  rcases bind_bad h with e | ⟨_, _, _, e⟩
  · exact sym_bad e
  · split at e
    · injection e with e; omega
    · rcases bind_bad e with e | ⟨_, _, _, e⟩
      · have := num_bad e; omega
      · cases e

theorem copied_agree (d : List UInt8) (lim sy : Nat) (t : Gz.Table) (x : Rf.D) (h : x.st = 0) (hs : 256 < sy) (h285 : sy ≤ 285) : Agree (Gz.rep d t lim sy x.out x.pos) (Rf.copied d lim t.dists sy x) := by
  unfold Gz.rep Rf.copied Rf.lenDist
  rw [if_neg (by omega)]
  cases h1 : Gz.num d (Gz.lenBits sy) x.pos with
  | error k => exact ⟨rfl, by have := num_bad h1; omega⟩
  | ok o =>
    obtain ⟨v, p1⟩ := o
    simp only [Gz.Out.bind]
    cases h2 : Gz.dist d t.dists p1 with
    | error k => exact ⟨rfl, dist_bad h2⟩
    | ok o2 =>
      obtain ⟨far, p2⟩ := o2
      simp only
      by_cases hf : x.out.length < far
      · rw [if_pos hf, if_pos hf]; exact ⟨rfl, by omega⟩
      · rw [if_neg hf, if_neg hf]
        have hc := copy_agree lim far (Gz.lenFrom.getD (sy - 257) 0 + v) { x with pos := p2, toks := x.toks ++ [(Gz.lenFrom.getD (sy - 257) 0 + v, far)] } h
        cases hg : Gz.copyGo lim far (Gz.lenFrom.getD (sy - 257) 0 + v) x.out with
        | none =>
          have hc : (Rf.copyN lim far (Gz.lenFrom.getD (sy - 257) 0 + v) { x with pos := p2, toks := x.toks ++ [(Gz.lenFrom.getD (sy - 257) 0 + v, far)] }).st = 8 := by
            have e : Gz.copyGo lim far (Gz.lenFrom.getD (sy - 257) 0 + v) ({ x with pos := p2, toks := x.toks ++ [(Gz.lenFrom.getD (sy - 257) 0 + v, far)] } : Rf.D).out = none := hg
            rw [e] at hc; exact hc
          exact ⟨hc, by omega⟩
        | some o =>
          have e : Gz.copyGo lim far (Gz.lenFrom.getD (sy - 257) 0 + v) ({ x with pos := p2, toks := x.toks ++ [(Gz.lenFrom.getD (sy - 257) 0 + v, far)] } : Rf.D).out = some o := hg
          rw [e] at hc
          exact hc

/-- A step of the symbols. -/
theorem step_agree (d : List UInt8) (lim : Nat) (t : Gz.Table) (x : Rf.D) (h : x.st = 0) : match Gz.symsStep d t lim x.out x.pos with
    | .error k => (Rf.symStep d lim t x).1.st = k ∧ k ≠ 0 ∧ (Rf.symStep d lim t x).2 = false
    | .ok (.inl o, q) => (Rf.symStep d lim t x).2 = false ∧ (Rf.symStep d lim t x).1.st = 0 ∧ (Rf.symStep d lim t x).1.out = o ∧ (Rf.symStep d lim t x).1.pos = q ∧ x.pos < q ∧ q ≤ 8 * d.length
    | .ok (.inr o, q) => (Rf.symStep d lim t x).2 = true ∧ (Rf.symStep d lim t x).1.st = 0 ∧ (Rf.symStep d lim t x).1.out = o ∧ (Rf.symStep d lim t x).1.pos = q := by
  unfold Gz.symsStep Rf.symStep
  cases h1 : Gz.sym d t.syms x.pos with
  | error k => exact ⟨rfl, sym_bad h1, rfl⟩
  | ok o =>
    obtain ⟨sy, p1⟩ := o
    have hp1 := sym_ok h1
    simp only [Gz.Out.bind]
    unfold Gz.obey
    by_cases h256 : sy = 256
    · rw [if_neg (by omega), if_pos h256]; simp only [if_pos h256]
      exact ⟨by first | rfl | trivial, h, by first | rfl | trivial, by first | rfl | trivial⟩
    · simp only [if_neg h256]
      by_cases hlt : sy < 256
      · simp only [if_pos hlt]
        by_cases hl : lim ≤ x.out.length
        · simp only [if_pos hl]
          unfold Rf.put
          rw [if_pos hl]
          exact ⟨by first | rfl | trivial, by omega, by first | rfl | trivial⟩
        · simp only [if_neg hl]
          unfold Rf.put
          rw [if_neg hl]
          exact ⟨by first | rfl | trivial, h, by first | rfl | trivial, by first | rfl | trivial, hp1.1, hp1.2⟩
      · simp only [if_neg hlt]
        by_cases h285 : sy ≤ 285
        · simp only [if_pos h285]
          have hc := copied_agree d lim sy t { x with pos := p1 } h (by omega) h285
          have hc : Agree (Gz.rep d t lim sy x.out p1) (Rf.copied d lim t.dists sy { x with pos := p1 }) := hc
          cases h2 : Gz.rep d t lim sy x.out p1 with
          | error k => rw [h2] at hc; exact ⟨hc.1, hc.2, by first | rfl | trivial⟩
          | ok o2 =>
            obtain ⟨o, q⟩ := o2
            have hq := rep_ok h2
            rw [h2] at hc
            exact ⟨by first | rfl | trivial, hc.1, hc.2.1, hc.2.2, by omega, hq.2⟩
        · simp only [if_neg h285]
          unfold Rf.copied
          rw [if_pos (by omega)]
          exact ⟨by first | rfl | trivial, by omega, by first | rfl | trivial⟩

theorem symsN_agree (d : List UInt8) (lim : Nat) (t : Gz.Table) : ∀ (n : Nat) (x : Rf.D), x.st = 0 → x.pos ≤ 8 * d.length → 8 * d.length + 1 - x.pos ≤ n → Agree (Gz.iter (8 * d.length) (Gz.symsStep d t lim) x.out x.pos) (Rf.symsN d lim t n x)
  | 0, x, _, hp, hn => by omega
  | n + 1, x, h, hp, hn => by
    have hst := step_agree d lim t x h
    unfold Rf.symsN
    rw [if_pos h]
    cases h1 : Gz.symsStep d t lim x.out x.pos with
    | error k =>
      rw [h1] at hst
      rw [iter_bad h1, hst.2.2]
      rw [if_neg (by simp), symsN_bad _ _ _ _ _ (by rw [hst.1]; exact hst.2.1)]
      exact ⟨hst.1, hst.2.1⟩
    | ok o =>
      obtain ⟨z, q⟩ := o
      cases z with
      | inr o =>
        rw [h1] at hst
        rw [iter_end h1, hst.1, if_pos rfl]
        exact ⟨hst.2.1, hst.2.2.1, hst.2.2.2⟩
      | inl o =>
        rw [h1] at hst
        obtain ⟨a1, a2, a3, a4, a5, a6⟩ := hst
        rw [iter_more h1 a5 a6, a1, if_neg (by simp)]
        have ih := symsN_agree d lim t n (Rf.symStep d lim t x).1 a2 (by rw [a4]; exact a6) (by rw [a4]; omega)
        rw [a3, a4] at ih
        exact ih
theorem syms_agree (d : List UInt8) (lim : Nat) (t : Gz.Table) (x : Rf.D) (h : x.st = 0) (hp : x.pos ≤ 8 * d.length) : Agree (Gz.syms d t lim x.out x.pos) (Rf.syms d lim t x) := symsN_agree d lim t _ x h hp (Nat.le_refl _)

theorem bytes_agree (d : List UInt8) (lim : Nat) : ∀ (n : Nat) (x : Rf.D), x.st = 0 → Agree (Gz.bytes d lim n x.out x.pos) (Rf.bytesN d lim n x)
  | 0, x, h => ⟨h, rfl, rfl⟩
  | n + 1, x, h => by
    unfold Gz.bytes Rf.bytesN
    rw [if_pos h]
    cases h1 : Gz.num d 8 x.pos with
    | error k => exact ⟨rfl, by have := num_bad h1; omega⟩
    | ok o =>
      obtain ⟨v, p1⟩ := o
      simp only [Gz.Out.bind]
      by_cases hl : lim ≤ x.out.length
      · rw [if_pos hl]
        have e : Rf.put lim { x with pos := p1 } (UInt8.ofNat v) = { x with pos := p1, st := 8 } := by unfold Rf.put; rw [if_pos hl]
        rw [e, bytesN_bad _ _ _ _ (by show ¬ 8 = 0; omega)]
        exact ⟨rfl, by omega⟩
      · rw [if_neg hl]
        have e : Rf.put lim { x with pos := p1 } (UInt8.ofNat v) = { x with pos := p1, out := x.out ++ [UInt8.ofNat v] } := by unfold Rf.put; rw [if_neg hl]
        rw [e]
        exact bytes_agree d lim n { x with pos := p1, out := x.out ++ [UInt8.ofNat v] } h
theorem stored_agree (d : List UInt8) (lim : Nat) (x : Rf.D) (h : x.st = 0) : Agree (Gz.stored d lim x.out x.pos) (Rf.stored d lim x) := by
  unfold Gz.stored Rf.stored
  cases h1 : Gz.num d 16 (8 * ((x.pos + 7) / 8)) with
  | error k => exact ⟨rfl, by have := num_bad h1; omega⟩
  | ok o =>
    obtain ⟨n, p1⟩ := o
    simp only [Gz.Out.bind]
    cases h2 : Gz.num d 16 p1 with
    | error k => exact ⟨rfl, by have := num_bad h2; omega⟩
    | ok o2 =>
      obtain ⟨m, p2⟩ := o2
      simp only
      by_cases hm : m + n = 65535
      · rw [if_neg (by omega), if_neg (by omega)]
        exact bytes_agree d lim n { x with pos := p2 } h
      · rw [if_pos hm, if_pos hm]
        exact ⟨rfl, by omega⟩

/-! Lengths of 0 tell nothing. -/
theorem foldl_zeros {α : Type} (f : α → Nat → α) (hf : ∀ a, f a 0 = a) : ∀ (k : Nat) (a : α), (List.replicate k 0).foldl f a = a
  | 0, _ => rfl
  | k + 1, a => by rw [List.replicate_succ, List.foldl_cons, hf]; exact foldl_zeros f hf k a
theorem counts_zeros (l : List Nat) (k : Nat) : Gz.counts (l ++ List.replicate k 0) = Gz.counts l := by
  unfold Gz.counts
  rw [List.foldl_append]
  exact foldl_zeros _ (fun a => by simp) k _
theorem fillTo_zeros (l : List Nat) (k : Nat) : ∀ i, i ≤ l.length → fillTo (l ++ List.replicate k 0) i = fillTo l i
  | 0, _ => by unfold fillTo; rw [List.take_zero, List.take_zero, List.foldl_nil, List.foldl_nil, counts_zeros]
  | i + 1, h => by
    rw [fillTo_succ _ i (by rw [List.length_append]; omega), fillTo_succ _ i (by omega), fillTo_zeros l k i (by omega)]
    congr 2
    rw [List.getD, List.getD, List.getElem?_append_left (by omega)]
theorem fillTo_more (l : List Nat) (k : Nat) : ∀ j, j ≤ k → fillTo (l ++ List.replicate k 0) (l.length + j) = fillTo l l.length
  | 0, _ => fillTo_zeros l k l.length (Nat.le_refl _)
  | j + 1, h => by
    have e : (l ++ List.replicate k 0).getD (l.length + j) 0 = 0 := by
      rw [List.getD, List.getElem?_append_right (by omega), List.getElem?_replicate]; split <;> rfl
    rw [← Nat.add_assoc, fillTo_succ _ (l.length + j) (by rw [List.length_append, List.length_replicate]; omega), e, fillTo_more l k j (by omega)]
    unfold Gz.fillStep
    rw [if_neg (by show ¬ 0 < 0; omega)]
theorem makeCode_zeros (l : List Nat) (k : Nat) : Gz.makeCode (l ++ List.replicate k 0) = Gz.makeCode l := by
  unfold Gz.makeCode
  have h1 := counts_zeros l k
  have h2 : Gz.fill (l ++ List.replicate k 0) = Gz.fill l := by
    rw [← fillTo_end, ← fillTo_end, List.length_append, List.length_replicate]
    exact fillTo_more l k k (Nat.le_refl _)
  have h3 : (l ++ List.replicate k 0).foldl max 0 = l.foldl max 0 := by
    rw [List.foldl_append]; exact foldl_zeros _ (fun a => by simp) k _
  rw [h1, h2, h3]
theorem makeCode_wide (l : List Nat) (n : Nat) : Gz.makeCode (Gz.wide l n) = Gz.makeCode l := makeCode_zeros l _
theorem share_wide (l : List Nat) (n : Nat) : Gz.share (Gz.wide l n) = Gz.share l := by
  unfold Gz.share Gz.wide
  rw [List.map_append, List.sum_append, List.map_replicate]
  simp
theorem sum_wide (l : List Nat) (n : Nat) : (Gz.wide l n).sum = l.sum := by
  unfold Gz.wide
  rw [List.sum_append]
  simp
theorem check_right (a b : List Nat) (ha : 257 ≤ a.length) (ha2 : a.length ≤ 288) : Gz.check (Gz.wide a 288 ++ Gz.wide b 32) = Rf.right a b := by
  have hl : (Gz.wide a 288).length = 288 := by unfold Gz.wide; simp; omega
  have e1 : (Gz.wide a 288 ++ Gz.wide b 32).take 288 = Gz.wide a 288 := by rw [List.take_append_of_le_length (by omega), List.take_of_length_le (by omega)]
  have e2 : (Gz.wide a 288 ++ Gz.wide b 32).drop 288 = Gz.wide b 32 := by rw [List.drop_append_of_le_length (by omega), List.drop_of_length_le (by omega)]; rfl
  have e3 : (Gz.wide a 288 ++ Gz.wide b 32).getD 256 0 = a.getD 256 0 := by
    rw [List.getD, List.getElem?_append_left (by omega)]
    unfold Gz.wide
    rw [List.getElem?_append_left (by omega), List.getD]
  unfold Gz.check Rf.right Gz.complete
  rw [e1, e2, e3, share_wide, share_wide, sum_wide]
  cases (a.getD 256 0 != 0) <;> cases (Gz.share a == 32768) <;> cases (Gz.share b == 32768) <;> cases (decide (b.sum ≤ 1)) <;> rfl
theorem codes_lens (d : List UInt8) (p : Nat) : Gz.codes d p = (Rf.lens d p).bind fun ab q => .ok (⟨Gz.makeCode ab.1, Gz.makeCode ab.2⟩, q) := by
  unfold Gz.codes Rf.lens
  cases h1 : Gz.num d 5 p with
  | error k => rfl
  | ok o =>
    obtain ⟨a, p1⟩ := o
    simp only [Gz.Out.bind]
    cases h2 : Gz.num d 5 p1 with
    | error k => rfl
    | ok o =>
      obtain ⟨b, p2⟩ := o
      simp only
      cases h3 : Gz.num d 4 p2 with
      | error k => rfl
      | ok o =>
        obtain ⟨c, p3⟩ := o
        simp only
        by_cases hb : 286 < a + 257 ∨ 30 < b + 1
        · rw [if_pos hb, if_pos hb]
        · rw [if_neg hb, if_neg hb]
          unfold Gz.telling
          cases h4 : Gz.tellGo d (c + 4) 0 (List.replicate 19 0) p3 with
          | error k => rfl
          | ok o =>
            obtain ⟨f, p4⟩ := o
            simp only [Gz.Out.bind]
            by_cases hc : Gz.complete f = true
            · simp only [if_pos hc]
              cases h5 : Gz.told d (Gz.makeCode f) (a + 257 + (b + 1)) p4 with
              | error k => rfl
              | ok o =>
                obtain ⟨l, p5⟩ := o
                have hll := told_len h5
                have hla : (l.take (a + 257)).length = a + 257 := by rw [List.length_take]; omega
                simp only
                rw [check_right _ _ (by omega) (by omega)]
                by_cases hr : Rf.right (l.take (a + 257)) (l.drop (a + 257)) = true
                · rw [if_pos hr, if_pos hr]
                  simp only
                  have hl : (Gz.wide (l.take (a + 257)) 288).length = 288 := by unfold Gz.wide; simp; omega
                  unfold Gz.makeTable
                  rw [show (Gz.wide (l.take (a + 257)) 288 ++ Gz.wide (l.drop (a + 257)) 32).take 288 = Gz.wide (l.take (a + 257)) 288 by rw [List.take_append_of_le_length (by omega), List.take_of_length_le (by omega)],
                    show (Gz.wide (l.take (a + 257)) 288 ++ Gz.wide (l.drop (a + 257)) 32).drop 288 = Gz.wide (l.drop (a + 257)) 32 by rw [List.drop_append_of_le_length (by omega), List.drop_of_length_le (by omega)]; rfl,
                    makeCode_wide, makeCode_wide, makeCode_wide, makeCode_wide]
                · rw [if_neg hr, if_neg hr]
            · simp only [if_neg hc]
theorem fixed_eq : Gz.fixed = ⟨Gz.makeCode Rf.fixedA, Gz.makeCode Rf.fixedB⟩ := by
  unfold Gz.fixed Gz.makeTable
  have e1 : ((List.range 320).map Gz.fixedLen).take 288 = Rf.fixedA := by
    unfold Rf.fixedA; rw [← List.map_take, List.take_range]; rfl
  have e2 : ((List.range 320).map Gz.fixedLen).drop 288 = Rf.fixedB := by decide +kernel
  rw [e1, e2]
end Go.Proofs.YtjjjlilflbddoaaDoor
