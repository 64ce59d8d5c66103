import Derived.Test.YtobohjjkcdhfeaaDoorCheck
import Derived.Deep.DeepCutAuto
import Derived.Deep.MidRow
import Derived.Deep.OwnRows
namespace Go.Proofs.YtobohjjkcdhfeaaDoor
open Go.RowKit

def iv (n : Nat) : Value := .int .i64 n
/-- A code's cells. -/
def CC (count : List Nat) (sv : Value) (lg : Nat) : Array Value := (count.map iv ++ [sv, iv lg]).toArray

theorem CC_count {count : List Nat} {sv : Value} {lg n : Nat} (h : count.length = 16) (hn : n < 16) : (CC count sv lg)[n]? = some (.int .i64 (count.getD n 0 : Nat)) := by
  have : n < count.length := by omega
  simp [CC, iv, List.getElem?_append, h, hn, List.getD]
theorem CC_16 {count : List Nat} {sv : Value} {lg : Nat} (h : count.length = 16) : (CC count sv lg)[16]? = some sv := by
  simp [CC, h]
theorem CC_17 {count : List Nat} {sv : Value} {lg : Nat} (h : count.length = 16) : (CC count sv lg)[17]? = some (.int .i64 lg) := by
  simp [CC, iv, h]
theorem CC_set {count : List Nat} {sv : Value} {lg n x : Nat} (h : count.length = 16) (hn : n < 16) : (CC count sv lg).setIfInBounds n (.int .i64 x) = CC (count.set n x) sv lg := by
  simp only [CC, List.setIfInBounds_toArray]
  rw [List.set_append, if_pos (by simp; omega), List.map_set]
  rfl
theorem CC_set16 {count : List Nat} {sv sv' : Value} {lg : Nat} (h : count.length = 16) : (CC count sv lg).setIfInBounds 16 sv' = CC count sv' lg := by
  simp only [CC, List.setIfInBounds_toArray]
  rw [List.set_append, if_neg (by simp; omega)]
  simp [h]
theorem CC_set17 {count : List Nat} {sv : Value} {lg lg' : Nat} (h : count.length = 16) : (CC count sv lg).setIfInBounds 17 (.int .i64 lg') = CC count sv lg' := by
  simp only [CC, List.setIfInBounds_toArray]
  rw [List.set_append, if_neg (by simp; omega)]
  simp [h, iv]

theorem counts_snoc (l : List Nat) (k : Nat) (h : k < l.length) : Gz.counts (l.take (k + 1)) = if 0 < l.getD k 0 then (Gz.counts (l.take k)).set (l.getD k 0) ((Gz.counts (l.take k)).getD (l.getD k 0) 0 + 1) else Gz.counts (l.take k) := by
  unfold Gz.counts
  rw [List.take_succ_eq_append_getElem h, List.foldl_append]
  simp [List.getD, h]
theorem max_snoc (l : List Nat) (k : Nat) (h : k < l.length) : (l.take (k + 1)).foldl max 0 = max ((l.take k).foldl max 0) (l.getD k 0) := by
  rw [List.take_succ_eq_append_getElem h, List.foldl_append]
  simp [List.getD, h]
theorem counts_length (l : List Nat) : (Gz.counts l).length = 16 := by
  unfold Gz.counts
  have : ∀ (l c : List Nat), c.length = 16 → (l.foldl (fun c n => if 0 < n then c.set n (c.getD n 0 + 1) else c) c).length = 16 := by
    intro l
    induction l with
    | nil => intro c h; simpa using h
    | cons a r ih => intro c h; simp only [List.foldl_cons]; apply ih; split <;> simp [h]
  exact this l _ (by simp)

theorem sum_set (c : List Nat) (n : Nat) (h : n < c.length) : (c.set n (c.getD n 0 + 1)).sum = c.sum + 1 := by
  induction c generalizing n with
  | nil => simp at h
  | cons a r ih =>
    cases n with
    | zero => simp; omega
    | succ n => simp at h; have := ih n h; simp [List.getD] at this ⊢; omega
theorem getD_le_sum (c : List Nat) (n : Nat) : c.getD n 0 ≤ c.sum := by
  induction c generalizing n with
  | nil => simp
  | cons a r ih =>
    cases n with
    | zero => simp
    | succ n => have := ih n; simp [List.getD] at this ⊢; omega
theorem counts_sum (l : List Nat) (hl : Lens l) : ∀ k, k ≤ l.length → (Gz.counts (l.take k)).sum ≤ k
  | 0, _ => by simp [Gz.counts]
  | k + 1, h => by
    rw [counts_snoc l k (by omega)]
    have h1 := counts_sum l hl k (by omega)
    split
    · rw [sum_set _ _ (by rw [counts_length]; have := hl k (by omega); omega)]; omega
    · omega

theorem heap_of_set {w w' : World} {b : Nat} {S : Nat → Prop} (h : Fr S w w') (hb : w.heap.size ≤ b) (i : Nat) (v : Value) : Fr S w (w'.setCell ⟨b, i, none⟩ v) := h.setCell (fun e => by have e' : b < w.heap.size := e; omega) v

/-- The places, as far as they are reckoned. -/
def plk (ct : List Nat) (k : Nat) : List Nat := (List.range 17).map fun i => if i ≤ k then (ct.take i).sum else 0
theorem plk_len (ct : List Nat) (k : Nat) : (plk ct k).length = 17 := by simp [plk]
theorem plk_get (ct : List Nat) (k i : Nat) (hi : i < 17) : (plk ct k).getD i 0 = if i ≤ k then (ct.take i).sum else 0 := by
  simp [plk, List.getD, hi]
theorem plk_zero (ct : List Nat) : plk ct 0 = List.replicate 17 0 := by
  apply List.ext_getElem
  · simp [plk]
  · intro i h1 h2
    simp only [plk, List.getElem_map, List.getElem_range, List.getElem_replicate]
    by_cases e : i ≤ 0
    · have : i = 0 := by omega
      subst this; rfl
    · rw [if_neg e]
theorem plk_end (ct : List Nat) : plk ct 16 = Gz.places ct := by
  unfold plk Gz.places
  apply List.map_congr_left
  intro i hi
  have : i < 17 := by simpa using hi
  rw [if_pos (by omega)]
theorem plk_succ (ct : List Nat) (k : Nat) (h : ct.length = 16) (hk : k < 16) : (plk ct k).set (k + 1) ((plk ct k).getD k 0 + ct.getD k 0) = plk ct (k + 1) := by
  rw [plk_get ct k k (by omega), if_pos (Nat.le_refl _)]
  apply List.ext_getElem
  · simp [plk]
  · intro i h1 h2
    have hi : i < 17 := by simpa [plk] using h2
    simp only [plk, List.getElem_set, List.getElem_map, List.getElem_range]
    by_cases e : k + 1 = i
    · subst e; rw [if_pos rfl, if_pos (Nat.le_refl _), sum_take_succ ct k (by omega)]
    · rw [if_neg e]
      by_cases e2 : i ≤ k
      · rw [if_pos e2, if_pos (by omega)]
      · rw [if_neg e2, if_neg (by omega)]

def ivs (l : List Nat) : Array Value := (l.map iv).toArray
theorem ivs_get {l : List Nat} {i : Nat} (h : i < l.length) : (ivs l)[i]? = some (.int .i64 (l.getD i 0 : Nat)) := by simp [ivs, iv, List.getD, h]
theorem ivs_set {l : List Nat} {i x : Nat} : (ivs l).setIfInBounds i (.int .i64 x) = ivs (l.set i x) := by simp [ivs, List.map_set, iv]

theorem info3 : (Tryd.prog.info? 3).map (fun i => (i.zero, i.size, i.bytes)) = some (some (.int .i64 0), 1, 8) := by kernel_rfl
theorem run_idx (ct : List Nat) (k : Nat) (hk : k < 16) (hl : ct.length = 16) (w : World) : (Instr.index 89 (.agg (ct.map iv).toArray) (.int .i64 k)).run Tryd.prog w = .ok (.int .i64 (ct.getD k 0 : Nat)) w := by
  obtain ⟨i0, hi, hz0, hz1, hz2⟩ := info_parts info3
  have hk' : k < ct.length := by omega
  simp [Instr.index, asIntOf, run_underlying Tryd.underlying89, sizeOf, typeInfo, hi, hz1, part, isAgg, run_underlying Tryd.underlying3, hk', iv, List.getD]
  intro h; omega

theorem getD_set_same (c : List Nat) (n x : Nat) (h : n < c.length) : (c.set n x).getD n 0 = x := by simp [List.getD, h]
theorem getD_set_ne (c : List Nat) (m n x : Nat) (h : m ≠ n) : (c.set m x).getD n 0 = c.getD n 0 := by simp only [List.getD]; rw [List.getElem?_set_ne h]

theorem made_zero (n : Nat) : madeCells #[.int .i64 0] n = ivs (List.replicate n 0) := by
  apply Array.ext
  · simp [madeCells, ivs]
  · intro i h1 h2
    simp [madeCells, ivs, iv, Nat.mod_one]

/-- The symbols, as far as they are laid. -/
def fillTo (l : List Nat) (k : Nat) : List Nat × List Nat :=
  (((List.range l.length).zip l).take k).foldl Gz.fillStep (List.replicate (Gz.counts l).sum 0, Gz.places (Gz.counts l))
theorem fillTo_end (l : List Nat) : fillTo l l.length = Gz.fill l := by
  unfold fillTo Gz.fill
  rw [List.take_of_length_le (by simp)]
theorem fillTo_succ (l : List Nat) (k : Nat) (h : k < l.length) : fillTo l (k + 1) = Gz.fillStep (fillTo l k) (k, l.getD k 0) := by
  unfold fillTo
  rw [List.take_succ_eq_append_getElem (by simpa using h), List.foldl_append]
  simp [List.getD, h]
/-- How many of the first k have length n. -/
theorem fill_inv (l : List Nat) (hl : Lens l) : ∀ k, k ≤ l.length → (fillTo l k).1.length = (Gz.counts l).sum ∧ (fillTo l k).2.length = 17 ∧ ∀ n, 0 < n → n < 16 → (fillTo l k).2.getD n 0 = ((Gz.counts l).take n).sum + (Gz.counts (l.take k)).getD n 0
  | 0, _ => by
    refine ⟨by simp [fillTo], by simp [fillTo, Gz.places], fun n h0 h16 => ?_⟩
    have : (Gz.counts (l.take 0)).getD n 0 = 0 := by simp only [List.take_zero, Gz.counts, List.foldl_nil]; rw [List.getD, List.getElem?_replicate]; split <;> rfl
    rw [this]
    show (Gz.places (Gz.counts l)).getD n 0 = _
    simp [Gz.places, List.getD, show n < 17 by omega]
  | k + 1, h => by
    obtain ⟨h1, h2, h3⟩ := fill_inv l hl k (by omega)
    have h15 := hl k (by omega)
    rw [fillTo_succ l k (by omega)]
    have hc := counts_snoc l k (by omega)
    rw [hc]
    unfold Gz.fillStep
    by_cases hn : 0 < l.getD k 0
    · rw [if_pos hn, if_pos hn]
      refine ⟨by simpa using h1, by simpa using h2, fun n h0 h16 => ?_⟩
      have hcl := counts_length (l.take k)
      by_cases e : l.getD k 0 = n
      · subst e
        have := h3 (l.getD k 0) h0 h16
        rw [getD_set_same _ _ _ (by rw [h2]; omega), getD_set_same _ _ _ (by rw [hcl]; omega)]
        dsimp only
        omega
      · rw [getD_set_ne _ _ _ _ e, getD_set_ne _ _ _ _ e]
        exact h3 n h0 h16
    · rw [if_neg hn, if_neg hn]
      exact ⟨h1, h2, h3⟩
/-- The counts only rise. -/
theorem counts_mono (l : List Nat) (hl : Lens l) (n k : Nat) : ∀ j, k + j ≤ l.length → (Gz.counts (l.take k)).getD n 0 ≤ (Gz.counts (l.take (k + j))).getD n 0
  | 0, _ => Nat.le_refl _
  | j + 1, h => by
    have ih := counts_mono l hl n k j (by omega)
    have hc := counts_snoc l (k + j) (by omega)
    rw [show k + (j + 1) = (k + j) + 1 by omega, hc]
    split
    · by_cases e : l.getD (k + j) 0 = n
      · subst e
        have hx : l.getD (k + j) 0 < (Gz.counts (l.take (k + j))).length := by rw [counts_length]; have := hl (k + j) (by omega); omega
        rw [getD_set_same _ _ _ hx]; omega
      · rw [getD_set_ne _ _ _ _ e]; exact ih
    · exact ih
/-- The place that is written lies within. -/
theorem fill_lt (l : List Nat) (hl : Lens l) (k : Nat) (h : k < l.length) (h0 : 0 < l.getD k 0) : (fillTo l k).2.getD (l.getD k 0) 0 < (Gz.counts l).sum := by
  have h15 := hl k h
  rw [(fill_inv l hl k (by omega)).2.2 _ h0 (by omega)]
  have hm := counts_mono l hl (l.getD k 0) (k + 1) (l.length - (k + 1)) (by omega)
  rw [show k + 1 + (l.length - (k + 1)) = l.length by omega, List.take_length, counts_snoc l k h, if_pos h0] at hm
  have hcl := counts_length (l.take k)
  rw [getD_set_same _ _ _ (by rw [hcl]; omega)] at hm
  have hs := sum_take_succ (Gz.counts l) (l.getD k 0) (by rw [counts_length]; omega)
  have ht := sum_take_le (Gz.counts l) (l.getD k 0 + 1)
  omega

theorem fill_small' (l : List Nat) (h0 : 0 < l.length) : ∀ k, k ≤ l.length → ∀ j, (fillTo l k).1.getD j 0 < l.length
  | 0, _ => fun j => by simp only [fillTo, List.take_zero, List.foldl_nil]; rw [List.getD, List.getElem?_replicate]; split <;> simp <;> exact h0
  | k + 1, h => fun j => by
    rw [fillTo_succ l k (by omega)]
    have ih := fill_small' l h0 k (by omega)
    unfold Gz.fillStep
    split
    · by_cases e : (fillTo l k).2.getD (k, l.getD k 0).2 0 = j
      · subst e
        dsimp only
        by_cases hj : (fillTo l k).2.getD (l.getD k 0) 0 < (fillTo l k).1.length
        · rw [getD_set_same _ _ _ hj]; omega
        · rw [List.getD, List.getElem?_eq_none (by rw [List.length_set]; omega)]; simp; exact h0
      · dsimp only; rw [getD_set_ne _ _ _ _ e]; exact ih j
    · exact ih j
theorem makeCode_small (l : List Nat) (h0 : 0 < l.length) (j : Nat) : (Gz.makeCode l).symbols.getD j 0 < l.length := by
  have := fill_small' l h0 l.length (Nat.le_refl _) j
  rw [fillTo_end] at this
  exact this
theorem maxInt (a b : Nat) : (if a < b then (b : Int) else (a : Int)) = ((max a b : Nat) : Int) := by
  split <;> omega

theorem CC_size {count : List Nat} {sv : Value} {lg : Nat} (h : count.length = 16) : (CC count sv lg).size = 18 := by simp [CC, h]

/-- What makeCode leaves. -/
def MadeCode (l : List Nat) (w : World) (e : Ending) (w' : World) : Prop :=
  ∃ sb, w.heap.size ≤ sb ∧ e = .returned (.agg (CC (Gz.makeCode l).count (.slice (some ⟨sb, 0, none⟩) (Gz.makeCode l).symbols.length (Gz.makeCode l).symbols.length) (Gz.makeCode l).longest)) ∧
    w'.heap[sb]? = some (.cells (ivs (Gz.makeCode l).symbols) 3 (0, 0)) ∧ Fr No w w'

theorem makeCode_good (l : List Nat) (hl : Lens l) (hn : l.length ≤ 320) : Good (Gz.makeCode l) := by
  have hi := fill_inv l hl l.length (Nat.le_refl _)
  rw [fillTo_end] at hi
  have hs := counts_sum l hl l.length (Nat.le_refl _)
  rw [List.take_length] at hs
  refine ⟨?_, counts_length l, ?_, ?_⟩
  · have : ∀ k, k ≤ l.length → (l.take k).foldl max 0 ≤ 15 := by
      intro k
      induction k with
      | zero => intro _; simp
      | succ k ih => intro h; rw [max_snoc l k (by omega)]; have := ih (by omega); have := hl k (by omega); omega
    have h2 := this l.length (Nat.le_refl _)
    rw [List.take_length] at h2
    exact h2
  · show (Gz.counts l).sum ≤ (Gz.fill l).1.length
    omega
  · show (Gz.fill l).1.length ≤ 320
    omega

set_option maxRecDepth 100000 in
set_option maxHeartbeats 1600000 in
theorem makeCode_any (b off cap : Nat) (l : List Nat) (w : World) (hb : Bys w b off l) (hl : Lens l) (hn : l.length ≤ 320) :
    Calls Tryd.prog 50 #[.slice (some ⟨b, off, none⟩) l.length cap] w (MadeCode l w) := by
  go_enter Tryd.func50, Tryd.ntmps50
  go_wp2
  go_loopw [13] (fun i wr => ∃ (k : Nat) (ct : List Nat) (lg : Nat), k ≤ l.length ∧ i = .int .i64 k ∧ ct = Gz.counts (l.take k) ∧ lg = (l.take k).foldl max 0 ∧ wr.heap[w.heap.size + 1]? = some (.cells (CC ct (.slice none 0 0) lg) 92 (0, 0)) ∧ wr.heap[w.heap.size]? = some (.cells (CC (List.replicate 16 0) (.slice none 0 0) 0) 92 (0, 0)) ∧ wr.heap.size = w.heap.size + 2 ∧ Fr No w wr) (fun i _ => l.length - (intOf i).toNat)
  case atStart => exact ⟨0, _, _, Nat.zero_le _, rfl, rfl, rfl, by rw [show w.heap.size + 1 = (w.alloc (.cells (CC (List.replicate 16 0) (.slice none 0 0) 0) 92)).heap.size by simp]; exact alloc_at _ _, alloc_old (alloc_at w _), by simp, ((Fr.refl _ _).alloc _).alloc _⟩
  case round =>
    obtain ⟨k, ct, lg, hk, rfl, hct, hlg, hblk, hblk0, hsz, hfr⟩ := hrel
    have hctl : ct.length = 16 := by rw [hct]; exact counts_length _
    by_cases hlt : k < l.length
    · have hc := (hb.fr hfr (no_no _)).2 k hlt
      have h15 := hl k hlt
      have HC := hide (counts_snoc l k hlt)
      have HM := hide (max_snoc l k hlt)
      have hx := getD_le_sum ct (l.getD k 0)
      have hx2 := counts_sum l hl k hk
      rw [← hct] at HC hx2
      rw [← hlg] at HM
      have HL := hide hlg
      have HCT := hide hct
      clear hct hlg
      have HB := hide hblk
      have HB0 := hide hblk0
      have HSZ := hide hsz
      generalize l.getD k 0 = n at *
      by_cases hn0 : 0 < n
      · have c17 := (cell_of hblk 17).trans (CC_17 hctl)
        have f17 := frozen_of hblk 17
        have cn := (cell_of hblk n).trans (CC_count hctl (by omega))
        have fn := frozen_of hblk n
        obtain ⟨x, hxe⟩ : ∃ x, x = ct.getD n 0 := ⟨_, rfl⟩
        rw [← hxe] at cn HC hx
        generalize hm : l.length = m at *
        clear hxe hblk hblk0 hsz
        go_wp2
        refine ⟨⟨k + 1, ct.set n (x + 1), max lg n, by omega, by go_num, ?_, HM.out.symm, ?_, ?_, ?_, ?_⟩, by simp [intOf]; omega⟩
        · rw [HC.out, if_pos hn0]
        · have e1 := set_of HB.out n (.int .i64 ((x : Int) + 1))
          rw [show ((x : Int) + 1) = ((x + 1 : Nat) : Int) by omega, CC_set hctl (by omega)] at e1
          have e2 := set_of e1 17 (.int .i64 (if lg < n then (n : Int) else (lg : Int)))
          rw [maxInt, CC_set17 (by simpa using hctl)] at e2
          rw [maxInt]
          exact e2
        · rw [set_other _ _ (by omega), set_other _ _ (by omega)]; exact HB0.out
        · simp; exact HSZ.out
        · exact heap_of_set (heap_of_set hfr (by omega) _ _) (by omega) _ _
      · generalize hm : l.length = m at *
        clear hblk hblk0 hsz
        go_wp2
        refine ⟨⟨k + 1, ct, lg, by omega, by go_num, ?_, ?_, HB.out, HB0.out, HSZ.out, hfr⟩, by simp [intOf]; omega⟩
        · rw [HC.out, if_neg hn0]
        · rw [HM.out]; omega
    · have hke : k = l.length := by omega
      subst hke
      rw [List.take_length] at hct hlg
      have HCT := hide hct
      have HLG := hide hlg
      have HB := hide hblk
      have HB0 := hide hblk0
      have HSZ := hide hsz
      clear hct hlg hblk hblk0
      have hrg : wr.rangeAt (w.heap.size + 1) 0 (ct.map iv) := fun j v hj => by
        have hj16 : j < 16 := by have := (List.getElem?_eq_some_iff.1 hj).1; simp at this; omega
        rw [Nat.zero_add, cell_of HB.out j, CC_count hctl hj16, ← hj]
        have : j < ct.length := by omega
        simp [iv, List.getD, this]
      have hrg2 : (wr.alloc (.cells (ivs (List.replicate 17 0)) 125)).rangeAt (w.heap.size + 1) 0 (ct.map iv) := fun j v hj => by
        rw [World.cell?_alloc_past _ _ _ (by show w.heap.size + 1 < _; omega)]; exact hrg j v hj
      have HRG := hide hrg2
      clear hrg hrg2
      go_wp2_with (refine wpList_load_mid rfl 89 (.tmp 33) rfl (w.heap.size + 1) 0 rfl (ct.map iv) _ (by exact HRG.out) Tryd.underlying89 rfl (by rw [List.length_map, hctl]; kernel_rfl) ?_)
      have hct320 : ct.sum ≤ 320 := by have := counts_sum l hl l.length (Nat.le_refl _); rw [List.take_length, ← HCT.out] at this; omega
      go_loopw [35] (fun i w2 => ∃ (k : Nat) (pl : List Nat), k ≤ 16 ∧ i = .int .i64 k ∧ pl = plk ct k ∧ w2.heap[w.heap.size + 2]? = some (.cells (ivs pl) 125 (0, 0)) ∧ w2.heap[w.heap.size + 1]? = some (.cells (CC ct (.slice none 0 0) lg) 92 (0, 0)) ∧ w2.heap[w.heap.size]? = some (.cells (CC (List.replicate 16 0) (.slice none 0 0) 0) 92 (0, 0)) ∧ w2.heap.size = w.heap.size + 3 ∧ Fr No w w2) (fun i _ => 16 - (intOf i).toNat)
      case atStart => exact ⟨0, _, Nat.zero_le _, rfl, rfl, by rw [plk_zero, ← hsz]; exact alloc_at _ _, alloc_old HB.out, alloc_old HB0.out, by simp; omega, hfr.alloc _⟩
      case round =>
        obtain ⟨k, pl, hk2, rfl, hpl, hp2, hp1, hp0, hsz2, hfr2⟩ := hrel
        have hpll : pl.length = 17 := by rw [hpl]; exact plk_len ct k
        have H2 := hide hp2
        have H1 := hide hp1
        have H0 := hide hp0
        have HS2 := hide hsz2
        have HPL := hide hpl
        by_cases hk16 : k < 16
        · have ck := (cell_of hp2 k).trans (ivs_get (by omega))
          have ck1 := (cell_of hp2 (k + 1)).trans (ivs_get (by omega))
          have fk1 := frozen_of hp2 (k + 1)
          have hxk : pl.getD k 0 ≤ 320 := by rw [hpl, plk_get ct k k (by omega), if_pos (Nat.le_refl _)]; have := sum_take_le ct k; omega
          have hyk := getD_le_sum ct k
          have hyk' : ct[k]? = some (ct.getD k 0) := by simp [List.getD, show k < ct.length by omega]
          have run_idx2 := run_idx ct k hk16 hctl
          have HX : Hid (pl.set (k + 1) (pl.getD k 0 + ct.getD k 0) = plk ct (k + 1)) := by unfold Hid; rw [hpl]; exact plk_succ ct k hctl hk16
          clear hpl hp2 hp1 hp0 hsz2
          generalize pl.getD k 0 = x at *
          generalize ct.getD k 0 = y at *
          have hidx := run_idx2
          go_wp2
          refine ⟨⟨k + 1, pl.set (k + 1) (x + y), by omega, by go_num, HX.out, ?_, ?_, ?_, ?_, ?_⟩, by simp [intOf]; omega⟩
          · have e1 := set_of H2.out (k + 1) (.int .i64 ((x : Int) + (y : Int)))
            rw [show ((x : Int) + (y : Int)) = ((x + y : Nat) : Int) by omega, ivs_set] at e1
            exact e1
          · rw [set_other _ _ (by omega)]; exact H1.out
          · rw [set_other _ _ (by omega)]; exact H0.out
          · simp; exact HS2.out
          · exact heap_of_set hfr2 (by omega) _ _
        · have hk16' : k = 16 := by omega
          subst hk16'
          have c16 := (cell_of hp2 16).trans (ivs_get (by omega))
          rw [hpl, plk_get ct 16 16 (by omega), if_pos (Nat.le_refl _), List.take_of_length_le (by omega)] at c16
          have hplE : pl = Gz.places ct := by rw [hpl, plk_end]
          have h316 : wr.cell? ⟨w.heap.size + 1, 16, none⟩ = some (.slice none 0 0) := (cell_of hp1 16).trans (CC_16 hctl)
          have f316 := frozen_of hp1 16
          have HPE := hide hplE
          clear hp2 hp1 hp0 hpl hplE
          obtain ⟨T, hT⟩ : ∃ T, T = ct.sum := ⟨_, rfl⟩
          rw [← hT] at c16 hct320
          have HT := hide hT
          have hmk := run_make_row' (P := Tryd.prog) 90 3 (.int .i64 0) 8 Tryd.underlying90 info3 rfl .i64 .i64 T (by omega) (by omega)
          clear hT
          go_wp2
          go_loopw [54] (fun i w3 => ∃ (k : Nat) (sp2 : List Nat × List Nat), k ≤ l.length ∧ i = .int .i64 k ∧ sp2 = fillTo l k ∧ w3.heap[w.heap.size + 3]? = some (.cells (ivs sp2.1) 3 (0, 0)) ∧ w3.heap[w.heap.size + 2]? = some (.cells (ivs sp2.2) 125 (0, 0)) ∧ w3.heap[w.heap.size + 1]? = some (.cells (CC ct (.slice (some ⟨w.heap.size + 3, 0, none⟩) T T) lg) 92 (0, 0)) ∧ w3.heap[w.heap.size]? = some (.cells (CC (List.replicate 16 0) (.slice none 0 0) 0) 92 (0, 0)) ∧ w3.heap.size = w.heap.size + 4 ∧ Fr No w w3) (fun i _ => l.length - (intOf i).toNat)
          case atStart =>
            have hz3 : (wr.setCell ⟨w.heap.size + 1, 16, none⟩ (.slice (some ⟨w.heap.size + 3, 0, none⟩) T T)).heap.size = w.heap.size + 3 := by rw [World.size_setCell]; exact HS2.out
            refine ⟨0, fillTo l 0, Nat.zero_le _, rfl, rfl, ?_, ?_, ?_, ?_, ?_, ?_⟩
            · have e1 := alloc_at (wr.setCell ⟨w.heap.size + 1, 16, none⟩ (.slice (some ⟨w.heap.size + 3, 0, none⟩) T T)) (.cells (madeCells #[.int .i64 0] T) 3)
              rw [hz3] at e1
              rw [e1, made_zero, HT.out, HCT.out]
              rfl
            · have e1 : (wr.setCell ⟨w.heap.size + 1, 16, none⟩ (.slice (some ⟨w.heap.size + 3, 0, none⟩) T T)).heap[w.heap.size + 2]? = some (.cells (ivs pl) 125 (0, 0)) := by rw [set_other _ _ (by omega)]; exact H2.out
              rw [alloc_old e1, HPE.out, HCT.out]
              rfl
            · have e1 := set_of H1.out 16 (.slice (some ⟨w.heap.size + 3, 0, none⟩) T T)
              rw [CC_set16 hctl] at e1
              exact alloc_old e1
            · have e1 : (wr.setCell ⟨w.heap.size + 1, 16, none⟩ (.slice (some ⟨w.heap.size + 3, 0, none⟩) T T)).heap[w.heap.size]? = some (.cells (CC (List.replicate 16 0) (.slice none 0 0) 0) 92 (0, 0)) := by rw [set_other _ _ (by omega)]; exact H0.out
              exact alloc_old e1
            · rw [World.size_alloc, hz3]
            · exact (heap_of_set hfr2 (by omega) _ _).alloc _
          case round =>
            obtain ⟨k, sp2, hk3, rfl, hsp2, hq3, hq2, hq1, hq0, hsz3, hfr3⟩ := hrel
            have hinv := fill_inv l hl k hk3
            rw [← hsp2] at hinv
            obtain ⟨hi1, hi2, hi3⟩ := hinv
            have Q3 := hide hq3
            have Q2 := hide hq2
            have Q1 := hide hq1
            have Q0 := hide hq0
            have QS := hide hsz3
            by_cases hlt3 : k < l.length
            · have hc := (hb.fr hfr3 (no_no _)).2 k hlt3
              have h15 := hl k hlt3
              have HF : Hid (fillTo l (k + 1) = Gz.fillStep sp2 (k, l.getD k 0)) := by unfold Hid; rw [hsp2]; exact fillTo_succ l k hlt3
              have hflt := fill_lt l hl k hlt3
              rw [← hsp2, ← HCT.out, ← HT.out] at hflt
              rw [← HCT.out, ← HT.out] at hi1
              clear hi3 hsp2
              generalize l.getD k 0 = n at *
              by_cases hn0 : 0 < n
              · have hx := hflt hn0
                have c16b := (cell_of hq1 16).trans (CC_16 hctl)
                have cn := (cell_of hq2 n).trans (ivs_get (by omega))
                have fn := frozen_of hq2 n
                obtain ⟨x, hxe⟩ : ∃ x, x = sp2.2.getD n 0 := ⟨_, rfl⟩
                rw [← hxe] at cn hx
                have cx := (cell_of hq3 x).trans (ivs_get (by omega))
                have fx := frozen_of hq3 x
                have HXE := hide hxe
                generalize hm : l.length = m at *
                clear hxe hq3 hq2 hq1 hq0 hsz3 hflt
                go_wp2
                go_region
                all_goals
                  go_wp2
                  refine ⟨⟨k + 1, (sp2.1.set x k, sp2.2.set n (x + 1)), by omega, by go_num, ?_, ?_, ?_, ?_, ?_, ?_, ?_⟩, by simp [intOf]; omega⟩
                  · rw [HF.out]; unfold Gz.fillStep; rw [if_pos hn0, ← HXE.out]
                  · have e1 := set_of Q3.out x (.int .i64 (k : Int))
                    rw [ivs_set] at e1
                    rw [heap_drew, set_other _ _ (by omega)]
                    exact e1
                  · rw [heap_drew]
                    have e1 : (wr.setCell ⟨w.heap.size + 3, x, none⟩ (.int .i64 (k : Int))).heap[w.heap.size + 2]? = some (.cells (ivs sp2.2) 125 (0, 0)) := by rw [set_other _ _ (by omega)]; exact Q2.out
                    have e2 := set_of e1 n (.int .i64 ((x : Int) + 1))
                    rw [show ((x : Int) + 1) = ((x + 1 : Nat) : Int) by omega, ivs_set] at e2
                    exact e2
                  · rw [heap_drew, set_other _ _ (by omega), set_other _ _ (by omega)]; exact Q1.out
                  · rw [heap_drew, set_other _ _ (by omega), set_other _ _ (by omega)]; exact Q0.out
                  · rw [heap_drew, World.size_setCell, World.size_setCell]; exact QS.out
                  · exact (heap_of_set (heap_of_set hfr3 (by omega) _ _) (by omega) _ _).drew
              · generalize hm : l.length = m at *
                clear hq3 hq2 hq1 hq0 hsz3 hflt
                go_wp2
                refine ⟨⟨k + 1, sp2, by omega, by go_num, ?_, Q3.out, Q2.out, Q1.out, Q0.out, QS.out, hfr3⟩, by simp [intOf]; omega⟩
                rw [HF.out]; unfold Gz.fillStep; rw [if_neg hn0]
            · have hke3 : k = l.length := by omega
              subst hke3
              rw [fillTo_end] at hsp2
              have HE := hide hsp2
              clear hi3 hsp2 hq3 hq2 hq1 hq0 hsz3
              go_wp2_with (first | (refine wpList_load_row rfl 92 (.tmp 3) rfl (w.heap.size + 1) rfl 92 (CC ct (.slice (some ⟨w.heap.size + 3, 0, none⟩) T T) lg) (0, 0) _ (by exact Q1.out) Tryd.underlying92 rfl (by rw [CC_size hctl]; kernel_rfl) ?_) | (refine wpList_store_row rfl 92 (.tmp 2) (.tmp 74) rfl w.heap.size (CC ct (.slice (some ⟨w.heap.size + 3, 0, none⟩) T T) lg) rfl rfl 92 (CC (List.replicate 16 0) (.slice none 0 0) 0) (by exact Q0.out) (by rw [CC_size hctl]; kernel_rfl) (by simp [CC, hctl]) (by simp [CC, iv, Value.oneCell']) ?_))
              have hfin : (wr.setRow w.heap.size (CC ct (.slice (some ⟨w.heap.size + 3, 0, none⟩) T T) lg)).heap[w.heap.size]? = some (.cells (CC ct (.slice (some ⟨w.heap.size + 3, 0, none⟩) T T) lg) 92 (0, 0)) := setRow_heap _ _ _ _ _ _ Q0.out
              refine bodyPost_ret (results_cell_row rfl _ _ w.heap.size 92 _ (0, 0) _ rfl hfin Tryd.underlying92 rfl (by rw [CC_size hctl]; kernel_rfl)) rfl ?_
              have hsy : sp2.1 = (Gz.makeCode l).symbols := by rw [HE.out]; rfl
              have hTl : T = (Gz.makeCode l).symbols.length := by rw [← hsy, hi1, HT.out, HCT.out]
              refine ⟨w.heap.size + 3, by omega, ?_, ?_, ?_⟩
              · rw [← hTl, HCT.out, HLG.out]; rfl
              · rw [setRow_other _ _ _ _ (by omega), ← hsy]; exact Q3.out
              · refine ⟨hfr3.os, hfr3.tape, hfr3.output, by rw [size_setRow]; exact hfr3.size, fun k hk _ => ?_⟩
                rw [setRow_other _ _ _ _ (by omega)]; exact hfr3.block k hk (no_no _)
end Go.Proofs.YtobohjjkcdhfeaaDoor
