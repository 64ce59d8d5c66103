import Derived.Test.YtjjjlilflbddoaaDoorGMk
namespace Go.Proofs.YtjjjlilflbddoaaDoor
open Go.RowKit

def uv (n : Nat) : Value := .int .u8 n
def uvs (l : List Nat) : Array Value := (l.map uv).toArray
theorem uvs_get {l : List Nat} {i : Nat} (h : i < l.length) : (uvs l)[i]? = some (.int .u8 (l.getD i 0 : Nat)) := by simp [uvs, uv, List.getD, h]
theorem uvs_set {l : List Nat} {i x : Nat} : (uvs l).setIfInBounds i (.int .u8 x) = uvs (l.set i x) := by simp [uvs, List.map_set, uv]
theorem uvs_size (l : List Nat) : (uvs l).size = l.length := by simp [uvs]

/-- The fixed lengths, as far as they are laid. -/
def fixTo (k : Nat) : List Nat := (List.range 320).map fun i => if i < k then Gz.fixedLen i else 0
theorem fixTo_len (k : Nat) : (fixTo k).length = 320 := by simp [fixTo]
theorem fixTo_zero : fixTo 0 = List.replicate 320 0 := by
  apply List.ext_getElem
  · rw [fixTo_len, List.length_replicate]
  · intro i h1 h2
    simp only [fixTo, List.getElem_map, List.getElem_range, List.getElem_replicate]
    rw [if_neg (by omega)]
theorem fixTo_end : fixTo 320 = (List.range 320).map Gz.fixedLen := by
  unfold fixTo
  apply List.map_congr_left
  intro i hi
  have : i < 320 := by simpa using hi
  rw [if_pos this]
theorem fixTo_succ (k : Nat) : (fixTo k).set k (Gz.fixedLen k) = fixTo (k + 1) := by
  apply List.ext_getElem
  · simp [fixTo]
  · intro i h1 h2
    have hi : i < 320 := by simpa [fixTo] using h2
    simp only [fixTo, List.getElem_set, List.getElem_map, List.getElem_range]
    by_cases e : k = i
    · subst e; rw [if_pos rfl, if_pos (by omega)]
    · rw [if_neg e]
      by_cases e2 : i < k
      · rw [if_pos e2, if_pos (by omega)]
      · rw [if_neg e2, if_neg (by omega)]

set_option maxRecDepth 100000 in
set_option maxHeartbeats 1600000 in
theorem fixedLengths_any (w : World) :
    Calls Tryd.prog 59 #[] w fun e w' => e = .returned (.agg (uvs ((List.range 320).map Gz.fixedLen))) ∧ Fr No w w' := by
  go_enter Tryd.func59, Tryd.ntmps59
  go_wp2_with fail
  go_loopw [3] (fun i wr => ∃ (k : Nat) (l : List Nat), k ≤ 320 ∧ i = .int .i64 k ∧ l = fixTo k ∧ wr.heap[w.heap.size + 1]? = some (.cells (uvs l) 109 (0, 0)) ∧ wr.heap[w.heap.size]? = some (.cells (uvs (List.replicate 320 0)) 109 (0, 0)) ∧ wr.heap.size = w.heap.size + 2 ∧ Fr No w wr) (fun i _ => 320 - (intOf i).toNat)
  case atStart => exact ⟨0, _, Nat.zero_le _, rfl, rfl, by rw [fixTo_zero, show w.heap.size + 1 = (w.alloc (.cells (uvs (List.replicate 320 0)) 109)).heap.size by simp]; exact alloc_at _ _, alloc_old (alloc_at w _), by simp, ((Fr.refl _ _).alloc _).alloc _⟩
  case round =>
    obtain ⟨k, l, hk, rfl, hl, hb1, hb0, hsz, hfr⟩ := hrel
    have hll : l.length = 320 := by rw [hl]; exact fixTo_len k
    have H1 := hide hb1
    have H0 := hide hb0
    have HS := hide hsz
    by_cases hlt : k < 320
    · have ck := (cell_of hb1 k).trans (uvs_get (by omega))
      have fk := frozen_of hb1 k
      have HX : Hid (l.set k (Gz.fixedLen k) = fixTo (k + 1)) := by unfold Hid; rw [hl]; exact fixTo_succ k
      clear hl hb1 hb0 hsz
      have hv : ∀ x, x = Gz.fixedLen k → (wr.setCell ⟨w.heap.size + 1, k, none⟩ (.int .u8 (x : Nat))).heap[w.heap.size + 1]? = some (.cells (uvs (l.set k (Gz.fixedLen k))) 109 (0, 0)) := by
        intro x hx
        have e1 := set_of H1.out k (.int .u8 (x : Nat))
        rw [uvs_set, hx] at e1
        rw [hx]
        exact e1
      have HV := hide hv
      clear hv
      by_cases h1 : k ≤ 143
      · go_wp2
        exact ⟨⟨k + 1, _, by omega, by go_num, HX.out, HV.out 8 (by unfold Gz.fixedLen; rw [if_pos h1]), by rw [set_other _ _ (by omega)]; exact H0.out, by rw [World.size_setCell]; exact HS.out, heap_of_set hfr (by omega) _ _⟩, by simp [intOf]; omega⟩
      · by_cases h2 : k ≤ 255
        · go_wp2
          exact ⟨⟨k + 1, _, by omega, by go_num, HX.out, HV.out 9 (by unfold Gz.fixedLen; rw [if_neg h1, if_pos h2]), by rw [set_other _ _ (by omega)]; exact H0.out, by rw [World.size_setCell]; exact HS.out, heap_of_set hfr (by omega) _ _⟩, by simp [intOf]; omega⟩
        · by_cases h3 : k ≤ 279
          · go_wp2
            exact ⟨⟨k + 1, _, by omega, by go_num, HX.out, HV.out 7 (by unfold Gz.fixedLen; rw [if_neg h1, if_neg h2, if_pos h3]), by rw [set_other _ _ (by omega)]; exact H0.out, by rw [World.size_setCell]; exact HS.out, heap_of_set hfr (by omega) _ _⟩, by simp [intOf]; omega⟩
          · by_cases h4 : k < 288
            · go_wp2
              exact ⟨⟨k + 1, _, by omega, by go_num, HX.out, HV.out 8 (by unfold Gz.fixedLen; rw [if_neg h1, if_neg h2, if_neg h3, if_pos h4]), by rw [set_other _ _ (by omega)]; exact H0.out, by rw [World.size_setCell]; exact HS.out, heap_of_set hfr (by omega) _ _⟩, by simp [intOf]; omega⟩
            · go_wp2
              exact ⟨⟨k + 1, _, by omega, by go_num, HX.out, HV.out 5 (by unfold Gz.fixedLen; rw [if_neg h1, if_neg h2, if_neg h3, if_neg h4]), by rw [set_other _ _ (by omega)]; exact H0.out, by rw [World.size_setCell]; exact HS.out, heap_of_set hfr (by omega) _ _⟩, by simp [intOf]; omega⟩
    · have hke : k = 320 := by omega
      subst hke
      rw [fixTo_end] at hl
      have HE := hide hl
      clear hl hb1 hb0 hsz
      go_wp2_with (first | (refine wpList_load_row rfl 109 (.tmp 1) rfl (w.heap.size + 1) rfl 109 (uvs l) (0, 0) _ (by exact H1.out) Tryd.underlying109 rfl (by rw [uvs_size, hll]; kernel_rfl) ?_) | (refine wpList_store_row rfl 109 (.tmp 0) (.tmp 29) rfl w.heap.size (uvs l) rfl rfl 109 (uvs (List.replicate 320 0)) (by exact H0.out) (by rw [uvs_size, hll]; kernel_rfl) (by rw [uvs_size, uvs_size, hll, List.length_replicate]) (by simp [uvs, uv, Value.oneCell']) ?_))
      have hfin : (wr.setRow w.heap.size (uvs l)).heap[w.heap.size]? = some (.cells (uvs l) 109 (0, 0)) := setRow_heap _ _ _ _ _ _ H0.out
      refine bodyPost_ret (results_cell_row rfl _ _ w.heap.size 109 _ (0, 0) _ rfl hfin Tryd.underlying109 rfl (by rw [uvs_size, hll]; kernel_rfl)) rfl ?_
      refine ⟨by rw [HE.out], hfr.os, hfr.tape, hfr.output, by rw [size_setRow]; exact hfr.size, fun k hk _ => ?_⟩
      rw [setRow_other _ _ _ _ (by omega)]; exact hfr.block k hk (no_no _)
end Go.Proofs.YtjjjlilflbddoaaDoor
namespace Go.Proofs.YtjjjlilflbddoaaDoor
open Go.RowKit

theorem makeCode_at (b off n cap : Nat) (l : List Nat) (w : World) (hb : Bys w b off l) (hl : Lens l) (hn : n ≤ 320) (he : n = l.length) :
    Calls Tryd.prog 118 #[.slice (some ⟨b, off, none⟩) n cap] w (MadeCode l w) := by
  subst he; exact makeCode_any b off cap l w hb hl hn

theorem exists18 (c : Array Value) (h : c.size = 18) : ∃ a0 a1 a2 a3 a4 a5 a6 a7 a8 a9 a10 a11 a12 a13 a14 a15 a16 a17, c = #[a0, a1, a2, a3, a4, a5, a6, a7, a8, a9, a10, a11, a12, a13, a14, a15, a16, a17] := by
  obtain ⟨l⟩ := c
  match l, h with
  | [a0, a1, a2, a3, a4, a5, a6, a7, a8, a9, a10, a11, a12, a13, a14, a15, a16, a17], _ => exact ⟨a0, a1, a2, a3, a4, a5, a6, a7, a8, a9, a10, a11, a12, a13, a14, a15, a16, a17, rfl⟩

theorem built_table (c1 c2 : Array Value) (h1 : c1.size = 18) (h2 : c2.size = 18) : Tryd.prog.built 209 [(0, .agg c1), (1, .agg c2)] = some (c1 ++ c2) := by
  obtain ⟨a0, a1, a2, a3, a4, a5, a6, a7, a8, a9, a10, a11, a12, a13, a14, a15, a16, a17, rfl⟩ := exists18 c1 h1
  obtain ⟨b0, b1, b2, b3, b4, b5, b6, b7, b8, b9, b10, b11, b12, b13, b14, b15, b16, b17, rfl⟩ := exists18 c2 h2
  kernel_rfl

theorem run_build2 (c1 c2 : Array Value) (h1 : c1.size = 18) (h2 : c2.size = 18) (w : World) : ((Instr.build 209 #[(0, .agg c1), (1, .agg c2)]).run Tryd.prog w).andThen (fun a w' => Result.ok (Next.value a) w') = Result.ok (Next.value (.agg (c1 ++ c2))) w := by
  rw [run_build w 209 _ (c1 ++ c2) (built_table c1 c2 h1 h2)]; rfl

theorem yields_build {a : Act} {o : Oper} {c1 c2 : Array Value} (ho : o.op = .build 209 #[(0, .tmp 4), (1, .tmp 6)]) (e4 : a.eval (.tmp 4) = .agg c1) (e6 : a.eval (.tmp 6) = .agg c2) (h1 : c1.size = 18) (h2 : c2.size = 18) :
    ∀ w, (execOp a.eval o).run Tryd.prog w = .ok (.value (.agg (c1 ++ c2))) w := by
  intro w
  unfold execOp
  simp only [ho, Sem.run_bind, List.map_toArray, List.map_cons, List.map_nil, e4, e6]
  exact run_build2 c1 c2 h1 h2 w

theorem codeAt_of {w : World} {tb co sb : Nat} {c : Gz.Code} {cells : Array Value} {t : TypeId} (hc : c.count.length = 16) (hb : w.heap[tb]? = some (.cells cells t (0, 0)))
    (hsub : ∀ i, i < 18 → cells[co + i]? = (CC c.count (.slice (some ⟨sb, 0, none⟩) c.symbols.length c.symbols.length) c.longest)[i]?) (hs : w.heap[sb]? = some (.cells (ivs c.symbols) 3 (0, 0))) : CodeAt w tb co sb c := by
  refine ⟨lt_of hb, fun i hi => ?_, ⟨some ⟨sb, 0, none⟩, c.symbols.length, ?_, fun j hj => ⟨rfl, lt_of hs, ?_⟩⟩, ?_⟩
  · rw [cell_of hb, hsub i (by omega)]; exact CC_count hc hi
  · rw [cell_of hb, hsub 16 (by omega)]; exact CC_16 hc
  · rw [cell_of hs]; exact ivs_get hj
  · rw [cell_of hb, hsub 17 (by omega)]; exact CC_17 hc

theorem tab_end (l : List Nat) (w w2 w3 : World) (s1 s2 : Nat) (hn : l.length = 320) (hl : Lens l) (hs1 : (w.alloc (.cells (uvs l) 109)).drew.heap.size ≤ s1)
    (hb1 : w2.heap[s1]? = some (.cells (ivs (Gz.makeCode (l.take 288)).symbols) 3 (0, 0))) (hf1 : Fr No (w.alloc (.cells (uvs l) 109)).drew w2) (hs2 : w2.heap.size ≤ s2)
    (hb2 : w3.heap[s2]? = some (.cells (ivs (Gz.makeCode (l.drop 288)).symbols) 3 (0, 0))) (hf2 : Fr No w2 w3) : ∃ tb t1 t2, Ending.returned (.pointer (some ⟨w3.heap.size, 0, none⟩)) = .returned (.pointer (some ⟨tb, 0, none⟩)) ∧ w.heap.size ≤ tb ∧ w.heap.size ≤ t1 ∧ w.heap.size ≤ t2 ∧
      tb < (w3.alloc (.cells (CC (Gz.makeCode (l.take 288)).count (.slice (some ⟨s1, 0, none⟩) (Gz.makeCode (l.take 288)).symbols.length (Gz.makeCode (l.take 288)).symbols.length) (Gz.makeCode (l.take 288)).longest ++ CC (Gz.makeCode (l.drop 288)).count (.slice (some ⟨s2, 0, none⟩) (Gz.makeCode (l.drop 288)).symbols.length (Gz.makeCode (l.drop 288)).symbols.length) (Gz.makeCode (l.drop 288)).longest) 209)).heap.size ∧
      t1 < (w3.alloc (.cells (CC (Gz.makeCode (l.take 288)).count (.slice (some ⟨s1, 0, none⟩) (Gz.makeCode (l.take 288)).symbols.length (Gz.makeCode (l.take 288)).symbols.length) (Gz.makeCode (l.take 288)).longest ++ CC (Gz.makeCode (l.drop 288)).count (.slice (some ⟨s2, 0, none⟩) (Gz.makeCode (l.drop 288)).symbols.length (Gz.makeCode (l.drop 288)).symbols.length) (Gz.makeCode (l.drop 288)).longest) 209)).heap.size ∧
      t2 < (w3.alloc (.cells (CC (Gz.makeCode (l.take 288)).count (.slice (some ⟨s1, 0, none⟩) (Gz.makeCode (l.take 288)).symbols.length (Gz.makeCode (l.take 288)).symbols.length) (Gz.makeCode (l.take 288)).longest ++ CC (Gz.makeCode (l.drop 288)).count (.slice (some ⟨s2, 0, none⟩) (Gz.makeCode (l.drop 288)).symbols.length (Gz.makeCode (l.drop 288)).symbols.length) (Gz.makeCode (l.drop 288)).longest) 209)).heap.size ∧
      TableAt (w3.alloc (.cells (CC (Gz.makeCode (l.take 288)).count (.slice (some ⟨s1, 0, none⟩) (Gz.makeCode (l.take 288)).symbols.length (Gz.makeCode (l.take 288)).symbols.length) (Gz.makeCode (l.take 288)).longest ++ CC (Gz.makeCode (l.drop 288)).count (.slice (some ⟨s2, 0, none⟩) (Gz.makeCode (l.drop 288)).symbols.length (Gz.makeCode (l.drop 288)).symbols.length) (Gz.makeCode (l.drop 288)).longest) 209)) [tb, t1, t2] tb t1 t2 (Gz.makeTable l) ∧
      Fr No w (w3.alloc (.cells (CC (Gz.makeCode (l.take 288)).count (.slice (some ⟨s1, 0, none⟩) (Gz.makeCode (l.take 288)).symbols.length (Gz.makeCode (l.take 288)).symbols.length) (Gz.makeCode (l.take 288)).longest ++ CC (Gz.makeCode (l.drop 288)).count (.slice (some ⟨s2, 0, none⟩) (Gz.makeCode (l.drop 288)).symbols.length (Gz.makeCode (l.drop 288)).symbols.length) (Gz.makeCode (l.drop 288)).longest) 209)) := by
  have z0 : w.heap.size ≤ s1 := by have : (w.alloc (.cells (uvs l) 109)).drew.heap.size = w.heap.size + 1 := by simp
                                   omega
  have z1 : w.heap.size + 1 ≤ w2.heap.size := by have := hf1.size; have e : (w.alloc (.cells (uvs l) 109)).drew.heap.size = w.heap.size + 1 := by simp
                                                 omega
  have z2 := hf2.size
  have l1 := lt_of hb1
  have l2 := lt_of hb2
  have hc1 : (Gz.makeCode (l.take 288)).count.length = 16 := counts_length (l.take 288)
  have hc2 : (Gz.makeCode (l.drop 288)).count.length = 16 := counts_length (l.drop 288)
  have hb1' : w3.heap[s1]? = _ := hf2.at hb1 (no_no _)
  refine ⟨w3.heap.size, s1, s2, rfl, by omega, by omega, by omega, by simp, by simp; omega, by simp; omega, ⟨codeAt_of hc1 (alloc_at w3 _) (fun i hi => ?_) (alloc_old hb1'), codeAt_of hc2 (alloc_at w3 _) (fun i hi => ?_) (alloc_old hb2), makeCode_good _ (hl.take 288) (by simp; omega), makeCode_good _ (hl.drop 288) (by simp; omega), by simp, by simp, by simp, ⟨_, alloc_at w3 _⟩, ⟨_, alloc_old hb1'⟩, _, alloc_old hb2⟩, (((((Fr.refl No w).alloc _).drew).trans hf1).trans hf2).alloc _⟩
  · rw [Nat.zero_add, Array.getElem?_append_left (by rw [CC_size hc1]; omega)]
    rfl
  · rw [Array.getElem?_append_right (by rw [CC_size hc1]; omega), CC_size hc1, Nat.add_sub_cancel_left]
    rfl

set_option maxRecDepth 100000 in
set_option maxHeartbeats 1600000 in
theorem makeTable_any (l : List Nat) (w : World) (hl : Lens l) (hn : l.length = 320) :
    Calls Tryd.prog 120 #[.agg (uvs l)] w fun e w' => ∃ tb s1 s2, e = .returned (.pointer (some ⟨tb, 0, none⟩)) ∧ w.heap.size ≤ tb ∧ w.heap.size ≤ s1 ∧ w.heap.size ≤ s2 ∧ tb < w'.heap.size ∧ s1 < w'.heap.size ∧ s2 < w'.heap.size ∧ TableAt w' [tb, s1, s2] tb s1 s2 (Gz.makeTable l) ∧ Fr No w w' := by
  have hB0 : Bys (w.alloc (.cells (uvs l) 109)) w.heap.size 0 l := ⟨by simp, fun i hi => by rw [Nat.zero_add, cell_of (alloc_at w _) i]; exact uvs_get hi⟩
  go_enter Tryd.func120, Tryd.ntmps120
  go_wp2
  refine wp_region_any (by kernel_rfl) ?_
  change wpAny _ _ _ _ _ _ _ (World.drew _)
  refine wpAny_take (i := 0) (v := ?_) rfl (by kernel_rfl) (by kernel_rfl) (by kernel_rfl) (fun _ _ _ h => h) (Or.inl ⟨by rfl, by intro w; go_simp; with_reducible rfl⟩) ?_
  refine wpAny_take (i := 2) (v := ?_) rfl (by kernel_rfl) (by kernel_rfl) (by kernel_rfl) (fun _ _ _ h => h) (Or.inl ⟨by rfl, by intro w; go_simp; with_reducible rfl⟩) ?_
  refine wpAny_ready (rs := [1]) (by kernel_rfl) (by simp) ?_
  refine AllReady.cons rfl (fun K hK => ?_) AllReady.nil
  go_simp
  refine (makeCode_at w.heap.size 0 288 320 (l.take 288) _ (by exact hB0.take 288) (hl.take 288) (by omega) (by simp; omega)).mono ?_
  rintro e w2 ⟨s1, hs1, rfl, hb1, hf1⟩
  refine hK _ _ ?_
  clear hK K
  refine wpAny_ready (rs := [3]) (by kernel_rfl) (by simp) ?_
  refine AllReady.cons rfl (fun K hK => ?_) AllReady.nil
  go_simp
  refine (makeCode_at w.heap.size 288 32 32 (l.drop 288) _ (by exact (hB0.fr (Fr.trans ((Fr.refl No _).drew) hf1) (no_no _)).drop 288) (hl.drop 288) (by omega) (by simp; omega)).mono ?_
  rintro e w3 ⟨s2, hs2, rfl, hb2, hf2⟩
  refine hK _ _ ?_
  clear hK K
  refine wpAny_take (i := 4) (v := .agg (CC (Gz.makeCode (l.take 288)).count (.slice (some ⟨s1, 0, none⟩) (Gz.makeCode (l.take 288)).symbols.length (Gz.makeCode (l.take 288)).symbols.length) (Gz.makeCode (l.take 288)).longest ++ CC (Gz.makeCode (l.drop 288)).count (.slice (some ⟨s2, 0, none⟩) (Gz.makeCode (l.drop 288)).symbols.length (Gz.makeCode (l.drop 288)).symbols.length) (Gz.makeCode (l.drop 288)).longest)) rfl (by kernel_rfl) (by kernel_rfl) (by kernel_rfl) (fun _ _ _ h => h) (Or.inl ⟨by rfl, yields_build rfl rfl rfl (CC_size (counts_length _)) (CC_size (counts_length _))⟩) ?_
  refine wpAny_ready (rs := [5]) (by kernel_rfl) (by simp) ?_
  refine AllReady.cons rfl (fun K hK => ?_) AllReady.nil
  go_simp
  refine hK _ _ ?_
  clear hK K
  refine wpAny_take (i := 6) (v := ?_) rfl (by kernel_rfl) (by kernel_rfl) (by kernel_rfl) (fun _ _ _ h => h) (Or.inl ⟨by rfl, by intro w; go_simp; with_reducible rfl⟩) ?_
  refine wpAny_done (by kernel_rfl) ?_ _
  go_wp2
  go_ret
  exact tab_end l w w2 w3 s1 s2 hn hl hs1 hb1 hf1 hs2 hb2 hf2
end Go.Proofs.YtjjjlilflbddoaaDoor
