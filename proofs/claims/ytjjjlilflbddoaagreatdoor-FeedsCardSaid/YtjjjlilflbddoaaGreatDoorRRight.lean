import Derived.Test.YtjjjlilflbddoaaGreatDoorRTold
namespace Go.Proofs.YtjjjlilflbddoaaGreatDoor
open Go.RowKit

/-- How many are there. -/
def posN (l : List Nat) : Nat := (l.map fun n => if 0 < n then 1 else 0).sum
theorem posN_take (l : List Nat) (k : Nat) (h : k < l.length) : posN (l.take (k + 1)) = posN (l.take k) + if 0 < l.getD k 0 then 1 else 0 := by
  unfold posN
  rw [List.take_succ_eq_append_getElem h, List.map_append, List.sum_append]
  simp only [List.getD, List.getElem?_eq_getElem h, Option.getD_some, List.map_cons, List.map_nil, List.sum_cons, List.sum_nil, Nat.add_zero]
theorem posN_le (l : List Nat) : ∀ k, posN (l.take k) ≤ k
  | 0 => by simp [posN]
  | k + 1 => by
    by_cases h : k < l.length
    · rw [posN_take l k h]; have := posN_le l k; split <;> omega
    · rw [List.take_of_length_le (by omega)]; have h1 := posN_le l k; rw [List.take_of_length_le (by omega)] at h1; omega
theorem share_cons (a : Nat) (r : List Nat) : Gz.share (a :: r) = shareOf a + Gz.share r := by simp [Gz.share, shareOf]
theorem posN_cons (a : Nat) (r : List Nat) : posN (a :: r) = (if 0 < a then 1 else 0) + posN r := by simp [posN]
theorem posN_zero : ∀ l : List Nat, posN l = 0 → l.sum = 0 ∧ Gz.share l = 0
  | [], _ => ⟨rfl, rfl⟩
  | a :: r, h => by
    rw [posN_cons] at h
    split at h
    · omega
    · have := posN_zero r (by omega)
      rw [share_cons, List.sum_cons, this.1, this.2]
      have ha : a = 0 := by omega
      subst ha
      exact ⟨rfl, rfl⟩
theorem posN_one : ∀ l : List Nat, posN l = 1 → 0 < l.sum ∧ Gz.share l = shareOf l.sum
  | [], h => by simp [posN] at h
  | a :: r, h => by
    rw [posN_cons] at h
    rw [share_cons, List.sum_cons]
    split at h
    · have := posN_zero r (by omega)
      rw [this.1, this.2]
      exact ⟨by omega, rfl⟩
    · have ih := posN_one r (by omega)
      have ha : a = 0 := by omega
      subst ha
      rw [Nat.zero_add, ih.2]
      exact ⟨ih.1, by unfold shareOf; simp⟩
theorem posN_sum : ∀ l : List Nat, posN l ≤ l.sum
  | [] => by simp [posN]
  | a :: r => by
    rw [posN_cons, List.sum_cons]
    have := posN_sum r
    split <;> omega
theorem shareOf_one (n : Nat) (h : 0 < n) (h15 : n ≤ 15) : shareOf n = 2 ^ 14 ↔ n = 1 := by
  rw [pow_share n h h15]
  constructor
  · intro e
    have := (Nat.pow_right_inj (a := 2) (by decide)).1 e
    omega
  · rintro rfl; rfl
theorem shareOf_ge (n : Nat) (h : 15 < n) : shareOf n ≠ 2 ^ 14 := by
  unfold shareOf
  rw [if_pos (by omega)]
  have : 32768 / 2 ^ n ≤ 32768 / 2 ^ 15 := Nat.div_le_div_left (Nat.pow_le_pow_right (by decide) (by omega)) (by decide)
  intro e
  rw [e] at this
  exact absurd this (by decide)
/-- What the document asks of the distances is what the program counts. -/
theorem few_iff (l : List Nat) : (posN l = 0 ∨ (posN l = 1 ∧ Gz.share l = 2 ^ 14)) ↔ l.sum ≤ 1 := by
  have h1 := posN_sum l
  constructor
  · rintro (h | ⟨h, hs⟩)
    · rw [(posN_zero l h).1]; omega
    · have := posN_one l h
      rw [this.2] at hs
      rcases Nat.lt_or_ge 15 l.sum with g | g
      · exact absurd hs (shareOf_ge _ g)
      · rw [(shareOf_one _ this.1 g).1 hs]; omega
  · intro h
    rcases Nat.eq_zero_or_pos (posN l) with h0 | h0
    · exact Or.inl h0
    · right
      have hp : posN l = 1 := by omega
      have := posN_one l hp
      refine ⟨hp, ?_⟩
      rw [this.2, show l.sum = 1 by omega]
      rfl

set_option maxRecDepth 100000 in
set_option maxHeartbeats 3200000 in
theorem rright_any (ba bb : Nat) (va vb : Value) (a b : List Nat) (w : World) (ha : Ins w ba va a) (hb : Ins w bb vb b) (la : Lens a) (lb : Lens b) (h257 : 257 ≤ a.length) (ha4 : a.length ≤ 400) (hb4 : b.length ≤ 400) :
    Calls Tryz.prog 95 #[va, vb] w fun e w' => e = .returned (.bool (Rf.right a b)) ∧ w' = w := by
  have HCA := hide (rcomplete_any ba va a w ha la ha4)
  have HCB := hide (rcomplete_any bb vb b w hb lb hb4)
  have HSB := hide (rshare_any bb vb b w hb lb hb4)
  have hpw := rpower_any 14 w (by omega)
  rw [show ((2 ^ 14 : Nat) : Int) = 16384 from rfl] at hpw
  have HPW := hide hpw
  clear hpw
  obtain ⟨a1, o1, c1, rfl, hc1⟩ := ha
  obtain ⟨a2, o2, c2, rfl, hc2⟩ := hb
  obtain ⟨rfl, hbl, h256⟩ := hc1 256 (by omega)
  have h15 := la 256 (by omega)
  have hfew := few_iff b
  have HFEW := hide hfew
  have hpl := posN_le b b.length
  rw [List.take_length] at hpl
  have hshl := share_le b b.length
  rw [List.take_length] at hshl
  clear hfew
  have hR : Rf.right a b = (Gz.complete a && (a.getD 256 0 != 0) && (decide (b.sum ≤ 1) || Gz.complete b)) := rfl
  rw [hR]
  clear hR
  generalize a.getD 256 0 = z at *
  obtain ⟨ca, hca⟩ : ∃ ca, ca = Gz.complete a := ⟨_, rfl⟩
  obtain ⟨cb, hcb⟩ : ∃ cb, cb = Gz.complete b := ⟨_, rfl⟩
  rw [← hca] at HCA ⊢
  rw [← hcb] at HCB ⊢
  clear hca hcb
  obtain ⟨fb, hfb⟩ : ∃ fb, fb = decide (b.sum ≤ 1) := ⟨_, rfl⟩
  rw [← hfb]
  have HFB := hide hfb
  clear hfb
  have hnot : ∀ (x : Bool) (w : World), (Op.unary .not (.bool x)).run Tryz.prog w = .ok (.bool (!x)) w := fun _ _ => rfl
  cases ca with
  | false =>
    go_enter Tryz.func95, Tryz.ntmps95
    go_wp2_with (go_at_call 93; refine HCA.out.mono ?_; rintro e w' ⟨rfl, hw⟩; obtain rfl := hw.symm)
    go_ret
    exact ⟨rfl, rfl⟩
  | true =>
    by_cases hz : z = 0
    · subst hz
      go_enter Tryz.func95, Tryz.ntmps95
      go_wp2_with (go_at_call 93; refine HCA.out.mono ?_; rintro e w' ⟨rfl, hw⟩; obtain rfl := hw.symm)
      go_ret
      exact ⟨rfl, rfl⟩
    · have hz' : ((z : Int) == 0) = false := by rw [beq_eq_false_iff_ne]; omega
      have hz2 : (z != 0) = true := by simp; omega
      rw [hz2]
      clear hz2
      go_enter Tryz.func95, Tryz.ntmps95
      go_wp2_with (first | (go_at_call 93; refine HCA.out.mono ?_; rintro e w' ⟨rfl, hw⟩; obtain rfl := hw.symm) | fail)
      go_loopw [5, 6] (fun sm i w2 => ∃ k : Nat, Hid (w2 = w) ∧ k ≤ b.length ∧ i = .int .i64 k ∧ sm = .int .i64 (posN (b.take k) : Nat)) (fun _ i _ => b.length - (intOf i).toNat)
      case atStart => exact ⟨0, rfl, Nat.zero_le _, rfl, rfl⟩
      case round =>
        obtain ⟨k, hww, hk, rfl, rfl⟩ := hrel
        obtain rfl := hww.out
        by_cases hkl : k < b.length
        · obtain ⟨rfl, hbb, hcc⟩ := hc2 k hkl
          have HC2 := hide hc2
          have HC1 := hide hc1
          clear hc2 hc1
          have h15b := lb k hkl
          have HPN := hide (posN_take b k hkl)
          have hpk := posN_le b k
          generalize b.getD k 0 = y at *
          generalize posN (b.take k) = pk at *
          by_cases hy : 0 < y
          · have hy' : (0 : Int) < y := by omega
            go_wp2
            exact ⟨⟨k + 1, (by first | exact rfl | exact True.intro), by omega, by go_num, by rw [HPN.out, if_pos hy]; go_num⟩, by simp [intOf]; omega⟩
          · have hy' : ¬ (0 : Int) < y := by omega
            go_wp2
            exact ⟨⟨k + 1, (by first | exact rfl | exact True.intro), by omega, by go_num, by rw [HPN.out, if_neg hy]; simp⟩, by simp [intOf]; omega⟩
        · rw [List.take_of_length_le (by omega)]
          generalize posN b = pn at *
          generalize Gz.share b = sb at *
          by_cases h0 : pn = 0
          · subst h0
            have hs : b.sum ≤ 1 := HFEW.out.1 (Or.inl rfl)
            obtain rfl : fb = true := by rw [HFB.out]; exact decide_eq_true hs
            clear hs
            go_wp2_with fail
            go_ret
            exact ⟨rfl, rfl⟩
          · have e0 : ((pn : Int) == 0) = false := by rw [beq_eq_false_iff_ne]; omega
            by_cases h1 : pn = 1
            · subst h1
              by_cases hs : sb = 2 ^ 14
              · have hs' : b.sum ≤ 1 := HFEW.out.1 (Or.inr ⟨rfl, hs⟩)
                obtain rfl : fb = true := by rw [HFB.out]; exact decide_eq_true hs'
                rw [hs, show ((2 ^ 14 : Nat) : Int) = 16384 from rfl] at HSB
                clear hs' hs
                go_wp2_with (first | (go_at_call 124; refine HSB.out.mono ?_; rintro e w' ⟨rfl, hw⟩; obtain rfl := hw.symm) | (go_at_call 125; refine HPW.out.mono ?_; rintro e w' ⟨rfl, hw⟩; obtain rfl := hw.symm) | (go_at_call 93; refine HCB.out.mono ?_; rintro e w' ⟨rfl, hw⟩; obtain rfl := hw.symm))
                go_ret
                exact ⟨rfl, rfl⟩
              · have hs' : ¬ b.sum ≤ 1 := fun h => by rcases HFEW.out.2 h with e | ⟨_, e⟩; omega; exact hs e
                obtain rfl : fb = false := by rw [HFB.out]; exact decide_eq_false hs'
                have es : ((sb : Int) == 16384) = false := by rw [beq_eq_false_iff_ne]; intro e; exact hs (by omega)
                clear hs' hs
                go_wp2_with (first | (go_at_call 124; refine HSB.out.mono ?_; rintro e w' ⟨rfl, hw⟩; obtain rfl := hw.symm) | (go_at_call 125; refine HPW.out.mono ?_; rintro e w' ⟨rfl, hw⟩; obtain rfl := hw.symm) | (go_at_call 93; refine HCB.out.mono ?_; rintro e w' ⟨rfl, hw⟩; obtain rfl := hw.symm))
                go_ret
                exact ⟨rfl, rfl⟩
            · have e1 : ((pn : Int) == 1) = false := by rw [beq_eq_false_iff_ne]; omega
              have hs' : ¬ b.sum ≤ 1 := fun h => by rcases HFEW.out.2 h with e | ⟨e, _⟩ <;> omega
              obtain rfl : fb = false := by rw [HFB.out]; exact decide_eq_false hs'
              clear hs'
              go_wp2_with (first | (go_at_call 124; refine HSB.out.mono ?_; rintro e w' ⟨rfl, hw⟩; obtain rfl := hw.symm) | (go_at_call 125; refine HPW.out.mono ?_; rintro e w' ⟨rfl, hw⟩; obtain rfl := hw.symm) | (go_at_call 93; refine HCB.out.mono ?_; rintro e w' ⟨rfl, hw⟩; obtain rfl := hw.symm))
              go_ret
              exact ⟨rfl, rfl⟩
end Go.Proofs.YtjjjlilflbddoaaGreatDoor
