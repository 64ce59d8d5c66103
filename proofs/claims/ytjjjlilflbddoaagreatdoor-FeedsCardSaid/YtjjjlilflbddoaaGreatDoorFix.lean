import Derived.Test.YtjjjlilflbddoaaGreatDoorMk
namespace Go.Proofs.YtjjjlilflbddoaaGreatDoor
open Go.RowKit

def uv (n : Nat) : Value := .int .u8 n
def uvs (l : List Nat) : Array Value := (l.map uv).toArray
theorem uvs_get {l : List Nat} {i : Nat} (h : i < l.length) : (uvs l)[i]? = some (.int .u8 (l.getD i 0 : Nat)) := by simp [uvs, uv, List.getD, h]
theorem uvs_set {l : List Nat} {i x : Nat} : (uvs l).setIfInBounds i (.int .u8 x) = uvs (l.set i x) := by simp [uvs, List.map_set, uv]
theorem uvs_size (l : List Nat) : (uvs l).size = l.length := by simp [uvs]

/-- The fixed lengths, as far as they are laid. -/
def fixTo (k : Nat) : List Nat := (List.range 320).map fun i => if i < k then Gz.fixedLen i else 0
theorem fixTo_len (k : Nat) : (fixTo k).length = 320 := by simp [fixTo]
theorem fixTo_zero : fixTo 0 = List.replicate 320 0 := by
  apply List.ext_getElem
  · rw [fixTo_len, List.length_replicate]
  · intro i h1 h2
    simp only [fixTo, List.getElem_map, List.getElem_range, List.getElem_replicate]
    rw [if_neg (by omega)]
theorem fixTo_end : fixTo 320 = (List.range 320).map Gz.fixedLen := by
  unfold fixTo
  apply List.map_congr_left
  intro i hi
  have : i < 320 := by simpa using hi
  rw [if_pos this]
theorem fixTo_succ (k : Nat) : (fixTo k).set k (Gz.fixedLen k) = fixTo (k + 1) := by
  apply List.ext_getElem
  · simp [fixTo]
  · intro i h1 h2
    have hi : i < 320 := by simpa [fixTo] using h2
    simp only [fixTo, List.getElem_set, List.getElem_map, List.getElem_range]
    by_cases e : k = i
    · subst e; rw [if_pos rfl, if_pos (by omega)]
    · rw [if_neg e]
      by_cases e2 : i < k
      · rw [if_pos e2, if_pos (by omega)]
      · rw [if_neg e2, if_neg (by omega)]

set_option maxRecDepth 100000 in
set_option maxHeartbeats 1600000 in
theorem fixedLengths_any (w : World) :
    Calls Tryz.prog 49 #[] w fun e w' => e = .returned (.agg (uvs ((List.range 320).map Gz.fixedLen))) ∧ Fr No w w' := by
  go_enter Tryz.func49, Tryz.ntmps49
  go_wp2_with fail
  go_loopw [3] (fun i wr => ∃ (k : Nat) (l : List Nat), k ≤ 320 ∧ i = .int .i64 k ∧ l = fixTo k ∧ wr.heap[w.heap.size + 1]? = some (.cells (uvs l) 105 (0, 0)) ∧ wr.heap[w.heap.size]? = some (.cells (uvs (List.replicate 320 0)) 105 (0, 0)) ∧ wr.heap.size = w.heap.size + 2 ∧ Fr No w wr) (fun i _ => 320 - (intOf i).toNat)
  case atStart => exact ⟨0, _, Nat.zero_le _, rfl, rfl, by rw [fixTo_zero, show w.heap.size + 1 = (w.alloc (.cells (uvs (List.replicate 320 0)) 105)).heap.size by simp]; exact alloc_at _ _, alloc_old (alloc_at w _), by simp, ((Fr.refl _ _).alloc _).alloc _⟩
  case round =>
    obtain ⟨k, l, hk, rfl, hl, hb1, hb0, hsz, hfr⟩ := hrel
    have hll : l.length = 320 := by rw [hl]; exact fixTo_len k
    have H1 := hide hb1
    have H0 := hide hb0
    have HS := hide hsz
    by_cases hlt : k < 320
    · have ck := (cell_of hb1 k).trans (uvs_get (by omega))
      have fk := frozen_of hb1 k
      have HX : Hid (l.set k (Gz.fixedLen k) = fixTo (k + 1)) := by unfold Hid; rw [hl]; exact fixTo_succ k
      clear hl hb1 hb0 hsz
      have hv : ∀ x, x = Gz.fixedLen k → (wr.setCell ⟨w.heap.size + 1, k, none⟩ (.int .u8 (x : Nat))).heap[w.heap.size + 1]? = some (.cells (uvs (l.set k (Gz.fixedLen k))) 105 (0, 0)) := by
        intro x hx
        have e1 := set_of H1.out k (.int .u8 (x : Nat))
        rw [uvs_set, hx] at e1
        rw [hx]
        exact e1
      have HV := hide hv
      clear hv
      by_cases h1 : k ≤ 143
      · go_wp2
        exact ⟨⟨k + 1, _, by omega, by go_num, HX.out, HV.out 8 (by unfold Gz.fixedLen; rw [if_pos h1]), by rw [set_other _ _ (by omega)]; exact H0.out, by rw [World.size_setCell]; exact HS.out, heap_of_set hfr (by omega) _ _⟩, by simp [intOf]; omega⟩
      · by_cases h2 : k ≤ 255
        · go_wp2
          exact ⟨⟨k + 1, _, by omega, by go_num, HX.out, HV.out 9 (by unfold Gz.fixedLen; rw [if_neg h1, if_pos h2]), by rw [set_other _ _ (by omega)]; exact H0.out, by rw [World.size_setCell]; exact HS.out, heap_of_set hfr (by omega) _ _⟩, by simp [intOf]; omega⟩
        · by_cases h3 : k ≤ 279
          · go_wp2
            exact ⟨⟨k + 1, _, by omega, by go_num, HX.out, HV.out 7 (by unfold Gz.fixedLen; rw [if_neg h1, if_neg h2, if_pos h3]), by rw [set_other _ _ (by omega)]; exact H0.out, by rw [World.size_setCell]; exact HS.out, heap_of_set hfr (by omega) _ _⟩, by simp [intOf]; omega⟩
          · by_cases h4 : k < 288
            · go_wp2
              exact ⟨⟨k + 1, _, by omega, by go_num, HX.out, HV.out 8 (by unfold Gz.fixedLen; rw [if_neg h1, if_neg h2, if_neg h3, if_pos h4]), by rw [set_other _ _ (by omega)]; exact H0.out, by rw [World.size_setCell]; exact HS.out, heap_of_set hfr (by omega) _ _⟩, by simp [intOf]; omega⟩
            · go_wp2
              exact ⟨⟨k + 1, _, by omega, by go_num, HX.out, HV.out 5 (by unfold Gz.fixedLen; rw [if_neg h1, if_neg h2, if_neg h3, if_neg h4]), by rw [set_other _ _ (by omega)]; exact H0.out, by rw [World.size_setCell]; exact HS.out, heap_of_set hfr (by omega) _ _⟩, by simp [intOf]; omega⟩
    · have hke : k = 320 := by omega
      subst hke
      rw [fixTo_end] at hl
      have HE := hide hl
      clear hl hb1 hb0 hsz
      go_wp2_with (first | (refine wpList_load_row rfl 105 (.tmp 1) rfl (w.heap.size + 1) rfl 105 (uvs l) (0, 0) _ (by exact H1.out) Tryz.underlying105 rfl (by rw [uvs_size, hll]; kernel_rfl) ?_) | (refine wpList_store_row rfl 105 (.tmp 0) (.tmp 29) rfl w.heap.size (uvs l) rfl rfl 105 (uvs (List.replicate 320 0)) (by exact H0.out) (by rw [uvs_size, hll]; kernel_rfl) (by rw [uvs_size, uvs_size, hll, List.length_replicate]) (by simp [uvs, uv, Value.oneCell']) ?_))
      have hfin : (wr.setRow w.heap.size (uvs l)).heap[w.heap.size]? = some (.cells (uvs l) 105 (0, 0)) := setRow_heap _ _ _ _ _ _ H0.out
      refine bodyPost_ret (results_cell_row rfl _ _ w.heap.size 105 _ (0, 0) _ rfl hfin Tryz.underlying105 rfl (by rw [uvs_size, hll]; kernel_rfl)) rfl ?_
      refine ⟨by rw [HE.out], hfr.os, hfr.tape, hfr.output, by rw [size_setRow]; exact hfr.size, fun k hk _ => ?_⟩
      rw [setRow_other _ _ _ _ (by omega)]; exact hfr.block k hk (no_no _)
end Go.Proofs.YtjjjlilflbddoaaGreatDoor
