import Derived.Test.YtjjjlilflbddoaaGreatDoorPkQ
import Derived.Test.YtjjjlilflbddoaaGreatDoorGPkC
import Derived.Test.YtjjjlilflbddoaaGreatDoorGMk
namespace Go.Proofs.YtjjjlilflbddoaaGreatDoor
open Go.RowKit


/-- What the writer needs of the package-level variables. -/
structure PkEnv (w : World) : Prop where
  size : 11 ≤ w.heap.size
  tell : ∀ i, i < 19 → w.cell? ⟨8, i, none⟩ = some (.int .i64 (Gz.order.getD i 0 : Nat))
  len : ∀ i, i < 29 → w.cell? ⟨9, i, none⟩ = some (.int .i64 (Gz.lenFrom.getD i 0 : Nat))
  far : ∀ i, i < 30 → w.cell? ⟨10, i, none⟩ = some (.int .i64 (Gz.distFrom.getD i 0 : Nat))
theorem PkEnv.fr {S : Nat → Prop} {w w' : World} (h : PkEnv w) (f : Fr S w w') (hs : ∀ k, k < 11 → ¬ S k) : PkEnv w' := by
  have hz := h.size
  refine ⟨Nat.le_trans h.size f.size, fun i a => ?_, fun i a => ?_, fun i a => ?_⟩
  · rw [f.cell (p := ⟨8, i, none⟩) (by show 8 < _; omega) (hs _ (by show 8 < _; omega))]; exact h.tell i a
  · rw [f.cell (p := ⟨9, i, none⟩) (by show 9 < _; omega) (hs _ (by show 9 < _; omega))]; exact h.len i a
  · rw [f.cell (p := ⟨10, i, none⟩) (by show 10 < _; omega) (hs _ (by show 10 < _; omega))]; exact h.far i a

set_option maxRecDepth 100000 in
set_option maxHeartbeats 1600000 in
theorem farSym_any (n : Nat) (w : World) (hE : PkEnv w) (hn : 1 ≤ n) (hn2 : n ≤ 100000) :
    Calls Tryz.prog 74 #[.int .i64 n] w fun e w' => e = .returned (.int .i64 (Pk.farSym n : Nat)) ∧ w' = w := by
  have HF := hide hE.far
  clear hE
  go_enter Tryz.func74, Tryz.ntmps74
  go_wp2
  go_loop [3] (fun iv => ∃ k : Nat, k ≤ 29 ∧ iv = .int .i64 k ∧ Hid (Pk.downTo Gz.distFrom n 29 = Pk.downTo Gz.distFrom n k)) (fun iv => (intOf iv).toNat)
  case atStart => exact ⟨29, Nat.le_refl _, rfl, rfl⟩
  case round =>
    obtain ⟨k, hk, rfl, HK⟩ := hrel
    have hc := HF.out k (by omega)
    have HD : Hid (∀ j, k = j + 1 → n < Gz.distFrom.getD k 0 → Pk.downTo Gz.distFrom n k = Pk.downTo Gz.distFrom n j) := by
      intro j e h
      subst e
      rw [Pk.downTo, if_pos h]
    have HS : Hid (¬ n < Gz.distFrom.getD k 0 → Pk.downTo Gz.distFrom n k = k) := by
      intro h
      cases k with
      | zero => rfl
      | succ j => rw [Pk.downTo, if_neg h]
    have h0 : k = 0 → Gz.distFrom.getD k 0 = 1 := fun e => by rw [e]; rfl
    obtain ⟨x, hx⟩ : ∃ x, x = Gz.distFrom.getD k 0 := ⟨_, rfl⟩
    rw [← hx] at hc HD HS h0
    clear hx
    have hk30 : (k : Int) < 30 := by omega
    by_cases hlt : n < x
    · obtain ⟨j, rfl⟩ : ∃ j, k = j + 1 := ⟨k - 1, by have := h0; omega⟩
      clear h0
      go_wp2
      go_round
      case rel => exact ⟨j, by omega, by go_num, by unfold Hid; rw [HK.out]; exact HD.out j rfl hlt⟩
      case measure => simp [intOf]
    · clear h0
      go_wp2
      go_ret
      exact ⟨ret_int (by unfold Pk.farSym; rw [HK.out, HS.out hlt]), rfl⟩

set_option maxRecDepth 100000 in
set_option maxHeartbeats 1600000 in
/-- The symbol of a part. -/
theorem psymbol_any (t : Nat × Nat) (w : World) (hE : PkEnv w) (h1 : t.2 = 0 → t.1 < 256) (h2 : t.2 ≠ 0 → 3 ≤ t.1 ∧ t.1 ≤ 258) :
    Calls Tryz.prog 73 #[.agg (partv t).toArray] w fun e w' => e = .returned (.int .i64 (Pk.symOf t : Nat)) ∧ Fr No w w' := by
  obtain ⟨n, x⟩ := t
  by_cases hx : x = 0
  · subst hx
    have hn : n < 256 := h1 rfl
    have hs : Pk.symOf (n, 0) = n := rfl
    have hp : (partv (n, 0)).toArray = #[.int .u8 (n : Nat), .int .i64 0, .int .i64 0] := rfl
    have wn : IntKind.i64.wrap (n : Int) = n := wraps_i64 _ (by omega) (by omega)
    rw [hs, hp]
    clear h1 h2 hE
    go_enter Tryz.func73, Tryz.ntmps73
    go_wp2
    go_ret
    exact ⟨rfl, (Fr.refl _ _).alloc _⟩
  · have hn := h2 hx
    have hs : Pk.symOf (n, x) = Pk.lenSym n := by unfold Pk.symOf; rw [if_neg hx]
    have hp : (partv (n, x)).toArray = #[.int .u8 0, .int .i64 (n : Nat), .int .i64 (x : Nat)] := by unfold partv; rw [if_neg hx]
    rw [hs, hp]
    have hn0 : ((n : Int) == 0) = false := by simp; omega
    have hsz := hE.size
    obtain ⟨w0, hw0⟩ : ∃ w0, w0 = w.alloc (.cells #[.int .u8 0, .int .i64 (n : Nat), .int .i64 (x : Nat)] 137) := ⟨_, rfl⟩
    have hf0 : Fr No w w0 := by rw [hw0]; exact (Fr.refl _ _).alloc _
    have hc1 : w0.cell? ⟨w.heap.size, 1, none⟩ = some (.int .i64 (n : Nat)) := by rw [hw0, cell_of (alloc_at w _)]; rfl
    have HL := hide (hE.fr hf0 (fun _ _ => no_no _)).len
    have HW0 := hide hw0
    have HF0 := hide hf0
    clear h1 h2 hE hw0 hf0 hs hp
    go_enter Tryz.func73, Tryz.ntmps73
    go_wp2_with fail
    rw [← HW0.out]
    go_loopw [3] (fun iv wr => ∃ k : Nat, k ≤ 28 ∧ iv = .int .i64 ((257 + k : Nat) : Int) ∧ Hid (Pk.downTo Gz.lenFrom n 28 = Pk.downTo Gz.lenFrom n k) ∧ Hid (Fr No w0 wr)) (fun iv _ => (intOf iv).toNat - 257)
    case atStart => exact ⟨28, Nat.le_refl _, rfl, rfl, Fr.refl _ _⟩
    case round =>
      obtain ⟨k, hk, rfl, HK, HF⟩ := hrel
      have hw0l : w.heap.size < w0.heap.size := by rw [HW0.out]; simp
      have hc := (HF.out.cell (p := ⟨9, k, none⟩) (by show 9 < _; omega) (no_no _)).trans (HL.out k (by omega))
      have hc2 := (HF.out.cell (p := ⟨w.heap.size, 1, none⟩) hw0l (no_no _)).trans hc1
      have HD : Hid (∀ j, k = j + 1 → n < Gz.lenFrom.getD k 0 → Pk.downTo Gz.lenFrom n k = Pk.downTo Gz.lenFrom n j) := by
        intro j e h
        subst e
        rw [Pk.downTo, if_pos h]
      have HS : Hid (¬ n < Gz.lenFrom.getD k 0 → Pk.downTo Gz.lenFrom n k = k) := by
        intro h
        cases k with
        | zero => rfl
        | succ j => rw [Pk.downTo, if_neg h]
      have h0 : k = 0 → Gz.lenFrom.getD k 0 = 3 := fun e => by rw [e]; rfl
      obtain ⟨z, hz⟩ : ∃ z, z = Gz.lenFrom.getD k 0 := ⟨_, rfl⟩
      rw [← hz] at hc HD HS h0
      clear hz
      have hk29 : (k : Int) < 29 := by omega
      have hki : ((257 + k : Nat) : Int) - 257 = (k : Int) := by omega
      by_cases hlt : n < z
      · obtain ⟨j, rfl⟩ : ∃ j, k = j + 1 := ⟨k - 1, by have := h0; omega⟩
        have hd : decide ((n : Int) < (z : Int)) = true := decide_eq_true (by omega)
        have hki2 : ((257 + (j + 1) : Nat) : Int) - 1 = ((257 + j : Nat) : Int) := by omega
        clear h0
        go_wp2_with fail
        go_quiet (fail)
        go_wp2
        refine ⟨⟨j, by omega, ?_, by unfold Hid; rw [HK.out]; exact HD.out j rfl hlt, HF.out.drewN _⟩, by simp [intOf]; omega⟩
        congr 1
      · have hd : decide ((n : Int) < (z : Int)) = false := decide_eq_false (by omega)
        clear h0
        go_wp2_with fail
        go_quiet (fail)
        go_wp2
        go_ret
        refine ⟨ret_int ?_, HF0.out.trans (HF.out.drewN _)⟩
        unfold Pk.lenSym
        rw [HK.out, HS.out hlt]
end Go.Proofs.YtjjjlilflbddoaaGreatDoor
namespace Go.Proofs.YtjjjlilflbddoaaGreatDoor
open Go.RowKit

/-- Words as they lie in memory. -/
def wordv (t : Nat × Nat) : List Value := [.int .i64 (t.1 : Nat), .int .i64 (t.2 : Nat)]
def wvs (ws : List (Nat × Nat)) : Array Value := (ws.flatMap wordv).toArray

theorem winfoW : (Tryz.prog.info? 154).map (fun i => (i.zero, i.size, i.bytes)) = some (some (.agg #[.int .i64 0, .int .i64 0]), 2, 16) := by kernel_rfl
theorem wvs_size (ws : List (Nat × Nat)) : (wvs ws).size = 2 * ws.length := by
  unfold wvs
  rw [List.size_toArray]
  induction ws with
  | nil => rfl
  | cons a l ih => rw [List.flatMap_cons, List.length_append, ih, List.length_cons]; show 2 + _ = _; omega
theorem wvs_get (ws : List (Nat × Nat)) : ∀ (s r : Nat), s < ws.length → r < 2 → (wvs ws)[2 * s + r]? = (wordv (ws.getD s (0, 0)))[r]? := by
  induction ws with
  | nil => intro s r h; simp at h
  | cons a l ih =>
    intro s r h hr
    have e : wvs (a :: l) = (wordv a ++ l.flatMap wordv).toArray := by unfold wvs; rw [List.flatMap_cons]
    rw [e, List.getElem?_toArray]
    cases s with
    | zero =>
      rw [show 2 * 0 + r = r by omega, List.getElem?_append_left (by show r < 2; exact hr)]
      rfl
    | succ s =>
      rw [List.getElem?_append_right (by show 2 ≤ _; omega)]
      have := ih s r (by simpa using h) hr
      unfold wvs at this
      rw [List.getElem?_toArray] at this
      rw [show 2 * (s + 1) + r - (wordv a).length = 2 * s + r by show _ - 2 = _; omega, this]
      rfl
theorem made_words (n : Nat) : madeCells #[.int .i64 0, .int .i64 0] (n * 2) = wvs (List.replicate n (0, 0)) := by
  apply Array.ext_getElem?
  intro k
  by_cases h : k < n * 2
  · have e : (wvs (List.replicate n (0, 0)))[k]? = some (.int .i64 0) := by
      have := wvs_get (List.replicate n (0, 0)) (k / 2) (k % 2) (by simp; omega) (by omega)
      rw [show 2 * (k / 2) + k % 2 = k by omega] at this
      rw [this]
      have e2 : (List.replicate n ((0, 0) : Nat × Nat)).getD (k / 2) (0, 0) = (0, 0) := by rw [List.getD, List.getElem?_replicate]; split <;> rfl
      rw [e2]
      rcases (by omega : k % 2 = 0 ∨ k % 2 = 1) with e | e <;> rw [e] <;> rfl
    rw [e]
    unfold madeCells
    rw [Array.getElem?_map, Array.getElem?_range, if_pos h]
    simp only [Option.map_some]
    show some (#[Value.int .i64 0, Value.int .i64 0][k % 2]!) = _
    rcases (by omega : k % 2 = 0 ∨ k % 2 = 1) with e | e <;> rw [e] <;> rfl
  · rw [Array.getElem?_eq_none (by rw [size_madeCells]; omega), Array.getElem?_eq_none (by rw [wvs_size]; simp; omega)]

theorem CC_slice {count : List Nat} {sv : Value} {lg : Nat} (h : count.length = 16) : (CC count sv lg)[16]? = some sv := by
  unfold CC
  rw [List.getElem?_toArray, List.getElem?_append_right (by rw [List.length_map]; omega), List.length_map, h]
  rfl
theorem code_field (count : List Nat) (sv : Value) (lg : Nat) (h : count.length = 16) (W : World) : (Instr.field 195 (.agg (CC count sv lg)) 1).run Tryz.prog W = .ok sv W := by
  have h16 := CC_slice (sv := sv) (lg := lg) h
  simp [Instr.field, run_underlying Tryz.underlying195, asAgg, Go.part, isAgg, go_sem, h16, run_underlying Tryz.underlying62]

theorem symbols_total (l : List Nat) (hl : Lens l) : (Gz.makeCode l).symbols.length = (Gz.counts l).sum := by
  have := (fill_inv l hl l.length (Nat.le_refl _)).1
  rw [fillTo_end] at this
  exact this
theorem counts_total (l : List Nat) (hl : Lens l) : (Gz.counts l).sum ≤ l.length := by
  have := counts_sum l hl l.length (Nat.le_refl _)
  rw [List.take_length] at this
  exact this
/-- A word is set. -/
theorem wvs_set (ws : List (Nat × Nat)) (s a n : Nat) (hs : s < ws.length) : ((wvs ws).setIfInBounds (2 * s) (.int .i64 (a : Nat))).setIfInBounds (2 * s + 1) (.int .i64 (n : Nat)) = wvs (ws.set s (a, n)) := by
  apply Array.ext_getElem?
  intro k
  have hz := wvs_size ws
  have hz2 : (wvs (ws.set s (a, n))).size = 2 * ws.length := by rw [wvs_size, List.length_set]
  rw [Array.getElem?_setIfInBounds, Array.getElem?_setIfInBounds, Array.size_setIfInBounds]
  by_cases hk : k < 2 * ws.length
  · have h1 := wvs_get ws (k / 2) (k % 2) (by omega) (by omega)
    have h2 := wvs_get (ws.set s (a, n)) (k / 2) (k % 2) (by rw [List.length_set]; omega) (by omega)
    rw [show 2 * (k / 2) + k % 2 = k by omega] at h1 h2
    rw [h1, h2]
    by_cases e : s = k / 2
    · have e3 : (ws.set s (a, n)).getD (k / 2) (0, 0) = (a, n) := by rw [List.getD, ← e, List.getElem?_set_self hs]; rfl
      rw [e3]
      rcases (by omega : k % 2 = 0 ∨ k % 2 = 1) with h | h
      · rw [if_neg (by omega), if_pos (by omega), if_pos (by omega), h]; rfl
      · rw [if_pos (by omega), if_pos (by omega), h]; rfl
    · rw [if_neg (by omega), if_neg (by omega)]
      have e3 : (ws.set s (a, n)).getD (k / 2) (0, 0) = ws.getD (k / 2) (0, 0) := by rw [List.getD, List.getElem?_set_ne e, List.getD]
      rw [e3]
  · rw [if_neg (by omega), if_neg (by omega), Array.getElem?_eq_none (by omega), Array.getElem?_eq_none (by omega)]

theorem wrap_succ (A : Nat) (h : A ≤ 52429200) : IntKind.i64.wrap ((A : Int) + 1) = (A : Int) + 1 ∧ wrap64 ((A : Int) + 1) = (A : Int) + 1 := by
  have h0 : (0 : Int) ≤ (A : Int) + 1 := by omega
  have h1 : (A : Int) + 1 < 2 ^ 62 := by omega
  exact ⟨wraps_i64 _ h0 h1, wrap64_id _ h0 h1⟩

set_option maxRecDepth 100000 in
set_option maxHeartbeats 3200000 in
theorem wordsOf_any (b off cap : Nat) (l : List Nat) (w : World) (hb : Bys w b off l) (hl : Lens l) (hn : l.length ≤ 320) :
    Calls Tryz.prog 79 #[.slice (some ⟨b, off, none⟩) l.length cap] w fun e w' => ∃ g, w.heap.size ≤ g ∧ e = .returned (.slice (some ⟨g, 0, none⟩) l.length l.length) ∧ w'.heap[g]? = some (.cells (wvs (words l)) 154 (0, 0)) ∧ Fr No w w' := by
  have hbl := hb.1
  have HB := hide hb
  clear hb
  obtain ⟨i0, hi, hz0, hz1, hz2⟩ := info_parts winfoW
  have hmk : ∀ w : World, (Instr.makeSlice 147 (.int .i64 (l.length : Nat)) (.int .i64 (l.length : Nat))).run Tryz.prog w = .ok (.slice (some ⟨w.heap.size, 0, none⟩) l.length l.length) (w.alloc (.cells (wvs (List.replicate l.length (0, 0))) 154)) := fun w => by
    have := run_makeSlice (P := Tryz.prog) w 147 154 i0 _ Tryz.underlying147 hi hz0 .i64 .i64 (l.length : Int) (l.length : Int) (by omega) (Int.le_refl _) (by rw [hz1]; omega) (by rw [hz2]; omega) (by omega)
    rw [this, hz1, Int.toNat_natCast]
    show Result.ok _ (w.alloc (.cells (madeCells #[.int .i64 0, .int .i64 0] (l.length * 2)) _)) = _
    rw [made_words]
  go_enter Tryz.func79, Tryz.ntmps79
  go_wp2_with fail
  obtain ⟨w2, hw2⟩ : ∃ w2, w2 = (w.alloc (.cells (wvs (List.replicate l.length (0, 0))) 154)).alloc (.cells #[.int .i64 0, .int .i64 0] 154) := ⟨_, rfl⟩
  have hf2 : Fr No w w2 := by rw [hw2]; exact ((Fr.refl _ _).alloc _).alloc _
  have hg2 : w2.heap[w.heap.size]? = some (.cells (wvs (wordsTo l 0)) 154 (0, 0)) := by rw [hw2, words_zero]; exact alloc_old (alloc_at w _)
  have hn2 : w2.heap[w.heap.size + 1]? = some (.cells #[.int .i64 0, .int .i64 0] 154 (0, 0)) := by rw [hw2]; exact alloc2_at w _ _
  have hs2 : w2.heap.size = w.heap.size + 2 := by rw [hw2, World.size_alloc, World.size_alloc]
  rw [← hw2]
  clear hw2
  refine (makeCode_any b off cap l w2 (HB.out.fr hf2 (no_no _)) hl hn).mono ?_
  rintro e w3 ⟨sb, hsb, rfl, hsbb, hf3⟩
  have HF3 := hide (hf2.trans hf3)
  have HG3 := hide (hf3.at hg2 (no_no _))
  have HN3 := hide (hf3.at hn2 (no_no _))
  have HSB := hide hsbb
  have hs3 := hf3.size
  clear hf2 hf3 hg2 hn2 hsbb
  have hcl := counts_length l
  have hfd := code_field (Gz.makeCode l).count (.slice (some ⟨sb, 0, none⟩) (Gz.makeCode l).symbols.length (Gz.makeCode l).symbols.length) (Gz.makeCode l).longest hcl
  have hsl : (Gz.makeCode l).symbols.length = (Gz.counts l).sum := symbols_total l hl
  obtain ⟨m, hm⟩ : ∃ m, m = (Gz.makeCode l).symbols.length := ⟨_, rfl⟩
  have hmt : m ≤ 320 := by
    rw [hm, hsl]
    have := counts_total l hl
    omega
  have HSY := hide hsl
  rw [← hm] at hfd HSY
  have HM := hide hm
  rw [← hm]
  clear hsl hm
  obtain ⟨AV, hAV⟩ : ∃ AV, AV = Value.agg (CC (Gz.makeCode l).count (.slice (some ⟨sb, 0, none⟩) m m) (Gz.makeCode l).longest) := ⟨_, rfl⟩
  rw [← hAV] at hfd ⊢
  clear hAV
  go_wp2_with fail
  obtain ⟨g, hg⟩ : ∃ g, g = w.heap.size := ⟨_, rfl⟩
  obtain ⟨nb, hnb⟩ : ∃ nb, nb = w.heap.size + 1 := ⟨_, rfl⟩
  have hbg : b ≠ g := by omega
  have hbn : b ≠ nb := by omega
  have hsg : sb ≠ g := by omega
  have hsn : sb ≠ nb := by omega
  have hgn : g ≠ nb := by omega
  have hgw : ¬ g < w.heap.size := by omega
  have hnw : ¬ nb < w.heap.size := by omega
  rw [← hnb] at HN3 ⊢
  rw [← hg] at HG3 ⊢
  have HGG := hide hg
  clear hg hnb
  go_loopw [16] (fun iv wr => ∃ j bb N : Nat, j ≤ m ∧ iv = .int .i64 j ∧ Hid (Next l j bb N) ∧ Hid (wr.heap[nb]? = some (.cells #[.int .i64 bb, .int .i64 N] 154 (0, 0))) ∧ Hid (wr.heap[g]? = some (.cells (wvs (wordsTo l j)) 154 (0, 0))) ∧ Hid (wr.heap[sb]? = some (.cells (ivs (Gz.makeCode l).symbols) 3 (0, 0))) ∧ Hid (Fr No w wr)) (fun iv _ => m - (intOf iv).toNat)
  case atStart => exact ⟨0, 0, 0, Nat.zero_le _, rfl, next_start l, HN3.out, HG3.out, HSB.out, HF3.out⟩
  case round =>
    obtain ⟨j, bb, N, hj, rfl, HX, HN, HG, HS, HF⟩ := hrel
    by_cases hlt : j < m
    · have hst := next_step hl HX.out (by rw [← HSY.out]; exact hlt) rfl
      have hcs : wr.cell? ⟨sb, j, none⟩ = some (.int .i64 ((Gz.makeCode l).symbols.getD j 0 : Nat)) := by rw [cell_of HS.out, ivs_get (by rw [← HM.out]; exact hlt)]
      obtain ⟨s, hs⟩ : ∃ s, s = (Gz.makeCode l).symbols.getD j 0 := ⟨_, rfl⟩
      rw [← hs] at hst hcs
      obtain ⟨s1, s2, s3, s4, s5, s6, s7⟩ := hst
      have hby := (HB.out.fr HF.out (no_no _)).2 s s1
      obtain ⟨n, hn0⟩ : ∃ n, n = l.getD s 0 := ⟨_, rfl⟩
      rw [← hn0] at s2 s3 s4 s6 s7 hby
      obtain ⟨k, hk⟩ : ∃ k, k = n - N := ⟨_, rfl⟩
      have hki : (n : Int) - (N : Int) = (k : Int) := by omega
      have hki2 : (N : Int) + (k : Int) = (n : Int) := by omega
      rw [← hk] at s6 s7
      obtain ⟨A, hA⟩ : ∃ A, A = bb * 2 ^ k := ⟨_, rfl⟩
      rw [← hA] at s6 s7
      have hAm : A ≤ 52429200 := by rw [s6]; exact codes_max l hl (by omega) s s1
      have hAi : (bb : Int) * 2 ^ k = (A : Int) := by rw [hA]; push_cast; rfl
      have wA : IntKind.i64.wrap (A : Int) = A := wraps_i64 _ (by omega) (by omega)
      have wn : IntKind.i64.wrap (n : Int) = n := wraps_i64 _ (by omega) (by omega)
      have wk : IntKind.i64.wrap (k : Int) = k := wraps_i64 _ (by omega) (by omega)
      have hk15 : k ≤ 15 := by omega
      have HSET := hide (words_set hl s1 (by omega) s5)
      rw [← hn0, ← s6] at HSET
      have HS7 := hide s7
      have hwl := words_len l j
      -- the cells
      have n0 : wr.cell? ⟨nb, 0, none⟩ = some (.int .i64 bb) := by rw [cell_of HN.out]; rfl
      have n1 : wr.cell? ⟨nb, 1, none⟩ = some (.int .i64 N) := by rw [cell_of HN.out]; rfl
      have nf0 := frozen_of HN.out 0
      have w64A : wrap64 (A : Int) = A := wrap64_id _ (by omega) (by omega)
      clear s7 s6 hA hn0 hs hk
      go_wp2_with fail
      go_quiet (fail)
      go_wp2_with fail
      have ha2 : ((World.drew (wr.drewN nq)).setCell ⟨nb, 0, none⟩ (.int .i64 (A : Int))).heap[nb]? = some (.cells #[.int .i64 (A : Int), .int .i64 N] 154 (0, 0)) := by rw [set_of (show (World.drew (wr.drewN nq)).heap[nb]? = _ from HN.out)]; rfl
      have m0 : (wr.drewN nq).cell? ⟨nb, 0, none⟩ = some (.int .i64 bb) := n0
      have m1 : (wr.drewN nq).cell? ⟨nb, 1, none⟩ = some (.int .i64 N) := n1
      have mf0 : (wr.drewN nq).frozen? ⟨nb, 0, none⟩ = false := nf0
      have mf1 : (wr.drewN nq).frozen? ⟨nb, 1, none⟩ = false := frozen_of (show (wr.drewN nq).heap[nb]? = _ from HN.out) 1
      have a2 : ((World.drew (wr.drewN nq)).setCell ⟨nb, 0, none⟩ (.int .i64 (A : Int))).cell? ⟨nb, 1, none⟩ = some (.int .i64 N) := by rw [cell_of ha2]; rfl
      have af2 := frozen_of ha2 1
      obtain ⟨wq, hwq⟩ : ∃ wq, wq = wr.drewN nq := ⟨_, rfl⟩
      rw [← hwq] at m0 m1 mf0 mf1 a2 af2 ⊢
      have HWQ := hide hwq
      clear hwq ha2 n0 n1 nf0
      go_region
      obtain ⟨wb, hwb⟩ : ∃ wb, wb = World.drew ((wq.setCell ⟨nb, 0, none⟩ (.int .i64 (A : Int))).setCell ⟨nb, 1, none⟩ (.int .i64 (n : Int))) := ⟨_, rfl⟩
      rw [← hwb]
      have hwqh : ∀ k : Nat, wq.heap[k]? = wr.heap[k]? := fun k => by rw [HWQ.out]; rfl
      have hb1 : (wq.setCell ⟨nb, 0, none⟩ (.int .i64 (A : Int))).heap[nb]? = some (.cells #[.int .i64 (A : Int), .int .i64 N] 154 (0, 0)) := by rw [set_of ((hwqh nb).trans HN.out)]; rfl
      have hnbb : wb.heap[nb]? = some (.cells #[.int .i64 (A : Int), .int .i64 (n : Int)] 154 (0, 0)) := by
        rw [hwb]
        show (World.setCell _ _ _).heap[nb]? = _
        rw [set_of hb1]; rfl
      have hgb : wb.heap[g]? = some (.cells (wvs (wordsTo l j)) 154 (0, 0)) := by
        rw [hwb]
        show (World.setCell _ _ _).heap[g]? = _
        rw [set_other 1 _ hgn, set_other 0 _ hgn, hwqh]; exact HG.out
      have hsbb : wb.heap[sb]? = some (.cells (ivs (Gz.makeCode l).symbols) 3 (0, 0)) := by
        rw [hwb]
        show (World.setCell _ _ _).heap[sb]? = _
        rw [set_other 1 _ hsn, set_other 0 _ hsn, hwqh]; exact HS.out
      have hfb : Fr No w wb := by
        rw [hwb, HWQ.out]
        exact (((HF.out.drewN nq).setCell (fun h => absurd h hnw) _).setCell (fun h => absurd h hnw) _).drew
      have x0 : wb.cell? ⟨nb, 0, none⟩ = some (.int .i64 (A : Int)) := by rw [cell_of hnbb]; rfl
      have x1 : wb.cell? ⟨nb, 1, none⟩ = some (.int .i64 (n : Int)) := by rw [cell_of hnbb]; rfl
      have xf0 := frozen_of hnbb 0
      have hws : (wvs (wordsTo l j)).size = 2 * l.length := by rw [wvs_size, hwl]
      obtain ⟨u0, y0⟩ : ∃ u, wb.cell? ⟨g, s * 2, none⟩ = some u := ⟨_, by rw [cell_of hgb]; exact Array.getElem?_eq_getElem (by omega)⟩
      obtain ⟨u1, y1⟩ : ∃ u, wb.cell? ⟨g, s * 2 + 1, none⟩ = some u := ⟨_, by rw [cell_of hgb]; exact Array.getElem?_eq_getElem (by omega)⟩
      have yf0 := frozen_of hgb (s * 2)
      have yf1 := frozen_of hgb (s * 2 + 1)
      have hsl : (s : Int) < (l.length : Int) := by omega
      have HNBB := hide hnbb
      have HGBB := hide hgb
      have HSBB := hide hsbb
      have HFBB := hide hfb
      clear hwb hwqh hb1 hnbb hgb hsbb hfb hws m0 m1 mf0 mf1 a2 af2 HG HS HN HF
      clear hmk hfd hi hz0 hz1 hz2
      go_upto_region 9 with fail
      obtain ⟨wd, hwd⟩ : ∃ wd, wd = (wb.setCell ⟨g, s * 2, none⟩ (.int .i64 (A : Int))).setCell ⟨g, s * 2 + 1, none⟩ (.int .i64 (n : Int)) := ⟨_, rfl⟩
      rw [← hwd]
      have hg1 : (wb.setCell ⟨g, s * 2, none⟩ (.int .i64 (A : Int))).heap[g]? = some (.cells ((wvs (wordsTo l j)).setIfInBounds (s * 2) (.int .i64 (A : Int))) 154 (0, 0)) := set_of HGBB.out _ _
      have hgd : wd.heap[g]? = some (.cells (wvs (wordsTo l (j + 1))) 154 (0, 0)) := by
        rw [hwd, set_of hg1, ← HSET.out, ← wvs_set (wordsTo l j) s A n (by rw [hwl]; exact s1), Nat.mul_comm s 2]
      have hnd : wd.heap[nb]? = some (.cells #[.int .i64 (A : Int), .int .i64 (n : Int)] 154 (0, 0)) := by
        rw [hwd, set_other (s * 2 + 1) _ (Ne.symm hgn), set_other (s * 2) _ (Ne.symm hgn)]; exact HNBB.out
      have hsd : wd.heap[sb]? = some (.cells (ivs (Gz.makeCode l).symbols) 3 (0, 0)) := by
        rw [hwd, set_other (s * 2 + 1) _ hsg, set_other (s * 2) _ hsg]; exact HSBB.out
      have hfd' : Fr No w wd := by rw [hwd]; exact (HFBB.out.setCell (fun h => absurd h hgw) _).setCell (fun h => absurd h hgw) _
      have z0 : wd.cell? ⟨nb, 0, none⟩ = some (.int .i64 (A : Int)) := by rw [cell_of hnd]; rfl
      have zf0 := frozen_of hnd 0
      have HND : Hid ((wd.setCell ⟨nb, 0, none⟩ (.int .i64 ((A : Int) + 1))).heap[nb]? = some (.cells #[.int .i64 ((A + 1 : Nat) : Int), .int .i64 (n : Int)] 154 (0, 0))) := by unfold Hid; rw [set_of hnd]; push_cast; rfl
      have HGD : Hid ((wd.setCell ⟨nb, 0, none⟩ (.int .i64 ((A : Int) + 1))).heap[g]? = some (.cells (wvs (wordsTo l (j + 1))) 154 (0, 0))) := by unfold Hid; rw [set_other 0 _ hgn]; exact hgd
      have HSD : Hid ((wd.setCell ⟨nb, 0, none⟩ (.int .i64 ((A : Int) + 1))).heap[sb]? = some (.cells (ivs (Gz.makeCode l).symbols) 3 (0, 0))) := by unfold Hid; rw [set_other 0 _ hsn]; exact hsd
      have HFD : Hid (Fr No w (wd.setCell ⟨nb, 0, none⟩ (.int .i64 ((A : Int) + 1)))) := hfd'.setCell (fun h => absurd h hnw) _
      obtain ⟨wA1, w64A1⟩ := wrap_succ A hAm
      clear hwd hg1 hgd hnd hsd hfd' x0 x1 xf0 y0 y1 yf0 yf1 HGBB HNBB HSBB HFBB HSET hAm hAi hki hki2 hk15 wA wn wk w64A s2 s3 s4 hby hcs hsl
      go_wp2_with fail
      refine ⟨⟨j + 1, A + 1, n, by omega, by go_num, HS7.out, HND.out, HGD.out, HSD.out, HFD.out⟩, by simp [intOf]; omega⟩
    · have e : j = m := by omega
      subst e
      go_wp2
      go_ret
      refine ⟨g, by omega, rfl, ?_, HF.out⟩
      have := HG.out
      rw [HSY.out, words_all l hl] at this
      exact this
end Go.Proofs.YtjjjlilflbddoaaGreatDoor
