import Derived.Test.YtjjjlilflbddoaaDoorGPtI
import Derived.Test.YtjjjlilflbddoaaDoorGPkF
import Derived.Laws.CopyRow
/-
  The lengths for parts.
-/
namespace Go.Proofs.YtjjjlilflbddoaaDoor
open Go.RowKit Pm

theorem zc288 : Tryd.zeroCells144 = ivs (List.replicate 288 0) := by kernel_rfl
/-- Counts of symbols: cntL of the symbols written so far. -/
def symY (ts : List (Nat × Nat)) : List Nat := [256] ++ ts.map Pk.symOf
def farY (ts : List (Nat × Nat)) : List Nat := (ts.filter (fun t => t.2 != 0)).map (fun t => Pk.farSym t.2)
theorem symY_snoc (ts : List (Nat × Nat)) (k : Nat) (h : k < ts.length) : symY (ts.take (k + 1)) = symY (ts.take k) ++ [Pk.symOf (ts.getD k (0, 0))] := by
  unfold symY
  rw [take_map_snoc ts _ k h, List.append_assoc]
theorem farY_snoc (ts : List (Nat × Nat)) (k : Nat) (h : k < ts.length) : farY (ts.take (k + 1)) = if (ts.getD k (0, 0)).2 = 0 then farY (ts.take k) else farY (ts.take k) ++ [Pk.farSym (ts.getD k (0, 0)).2] := by
  unfold farY
  rw [List.take_add_one, List.filter_append, List.map_append, List.getD, List.getElem?_eq_getElem h]
  simp only [Option.toList_some, Option.getD_some]
  by_cases h0 : ts[k].2 = 0
  · rw [if_pos h0, List.filter_cons_of_neg (by simpa using h0)]; simp
  · rw [if_neg h0, List.filter_cons_of_pos (by simpa using h0)]; simp
theorem symC_eq (ts : List (Nat × Nat)) : Pk.symC ts = if ts = [] then cntL 288 (symY ts ++ [0]) else cntL 288 (symY ts) := by
  unfold Pk.symC cntL
  by_cases h : ts = []
  · rw [if_pos h]
    apply List.map_congr_left
    intro x _
    unfold Pk.symCnt symY
    rw [h]
    simp only [List.map_nil, List.append_nil, List.count_nil, Nat.add_zero, true_and]
    rw [List.count_append, List.count_singleton, List.count_singleton]
    by_cases h1 : x = 256
    · subst h1; simp
    · by_cases h2 : x = 0
      · subst h2; simp
      · have e1 : (256 == x) = false := by simp; omega
        have e2 : (0 == x) = false := by simp; omega
        rw [if_neg h1, if_neg h2, e1, e2]; rfl
  · rw [if_neg h]
    apply List.map_congr_left
    intro x _
    unfold Pk.symCnt symY
    rw [if_neg (c := ts = [] ∧ x = 0) (fun hh => h hh.1), Nat.add_zero, List.count_append, List.count_singleton]
    by_cases h1 : x = 256
    · subst h1; simp
    · have e1 : (256 == x) = false := by simp; omega
      rw [if_neg h1, e1]; rfl
theorem farC_eq (ts : List (Nat × Nat)) : Pk.farC ts = cntL 32 (farY ts) := rfl
theorem symY_len (ts : List (Nat × Nat)) : (symY ts).length = ts.length + 1 := by simp [symY]
theorem farY_len (ts : List (Nat × Nat)) : (farY ts).length ≤ ts.length := by
  unfold farY
  rw [List.length_map]
  exact List.length_filter_le _ _
/-- A copied row. -/
theorem wp_copy_r {o : Oper} {a : Act} {w : World} {K : Act → World → Prop} {Q : Exit → Act → World → Prop} (x y : Operand) (dT sT elem : TypeId) (ho : o.op = .call { callee := .builtin .copy, args := #[x, y], argTypes := #[dT, sT] })
    (g off dLen dCap : Nat) (hx : a.eval x = .slice (some ⟨g, off, none⟩) dLen dCap) (sb so sLen sCap : Nat) (hy : a.eval y = .slice (some ⟨sb, so, none⟩) sLen sCap) (cur : Array Value) (t : TypeId) (cs : List Value)
    (hu : Tryd.prog.underlying dT = some (.slice elem)) (hs : (Tryd.prog.info? elem).map (·.size) = some 1) (hg : w.heap[g]? = some (.cells cur t (0, 0))) (hn : cs.length = Nat.min sLen dLen)
    (hsrc : ∀ j v, cs[j]? = some v → w.cell? ⟨sb, so + j, none⟩ = some v) (hfit : off + cs.length ≤ cur.size) (h1 : ∀ v ∈ cs, v.oneCell' = true)
    (news : Array Value) (hnew : (cur.toList.take off ++ cs ++ cur.toList.drop (off + cs.length)).toArray = news)
    (h : ∀ w', w'.heap[g]? = some (.cells news t (0, 0)) → Fr (One g) w w' → K (a.put o.dst (goInt cs.length)) w') : o.wp Tryd.prog a w K Q := by
  have hr := run_copy_row Tryd.prog w dT sT o.type elem g off dLen dCap ⟨sb, so, none⟩ sLen sCap cur t cs hu hs hg hn (fun j v hv => by rw [Addr.add_mid]; exact hsrc j v hv) hfit h1
  rw [hnew] at hr
  unfold Oper.wp execOp
  simp only [ho, resolve, invoke, builtin, Sem.run_bind, Sem.run_pure, Result.andThen_ok, List.map_toArray, List.map_cons, List.map_nil, hx, hy, hr]
  exact h _ (setRow_heap _ _ _ _ _ _ hg) ⟨rfl, rfl, rfl, by rw [size_setRow]; exact Nat.le_refl _, fun k _ hs => setRow_other _ _ _ _ hs⟩
theorem uvs_list (l : List Nat) : (uvs l).toList = uvl l := rfl
theorem cpa (a : List Nat) (h : a.length = 288) : ((uvs (List.replicate 320 0)).toList.take 0 ++ uvl a ++ (uvs (List.replicate 320 0)).toList.drop (0 + (uvl a).length)).toArray = uvs (a ++ List.replicate 32 0) := by
  rw [uvs_list, List.take_zero, List.nil_append, Nat.zero_add, uvl_len, h]
  unfold uvl uvs
  rw [← List.map_drop, List.drop_replicate, ← List.map_append]
  rfl
theorem cpb (a b : List Nat) (h : a.length = 288) (h2 : b.length = 32) : ((uvs (a ++ List.replicate 32 0)).toList.take 288 ++ uvl b ++ (uvs (a ++ List.replicate 32 0)).toList.drop (288 + (uvl b).length)).toArray = uvs (a ++ b) := by
  rw [uvs_list, uvl_len, h2]
  unfold uvl uvs
  rw [← List.map_take, ← List.map_drop, List.take_append_of_le_length (by omega), List.take_of_length_le (by omega), List.drop_of_length_le (by simp; omega), List.map_nil, List.append_nil, ← List.map_append]
  rfl
theorem uvl_src {w : World} {g : Nat} {l : List Nat} (h : w.heap[g]? = some (.cells (uvs l) 5 (0, 0))) : ∀ j v, (uvl l)[j]? = some v → w.cell? ⟨g, 0 + j, none⟩ = some v := fun j v hv => by
  rw [Nat.zero_add, cell_of h, ← Array.getElem?_toList, uvs_list]
  exact hv
/-- What lengthsFor comes to. -/
def LensP (ts : List (Nat × Nat)) (w : World) (e : Ending) (w' : World) : Prop := ∃ a b, Bst (Pk.symC ts) 15 a ∧ Bst (Pk.farC ts) 15 b ∧ e = .returned (.agg (uvs (a ++ b))) ∧ Fr No w w'

set_option maxRecDepth 100000 in
set_option maxHeartbeats 12800000 in
theorem lengthsFor_any (K : List Nat) (ao : Option Addr) (cap : Nat) (ts : List (Nat × Nat)) (w : World) (hp : PartsAt w K ao ts) (hok : ∀ t ∈ ts, TokOk t) (hE : PkEnv w) (hn : ts.length ≤ 1500) :
    Calls Tryd.prog 60 #[.slice ao ts.length cap] w (LensP ts w) := by
  have HP := hide hp
  have HOK := hide hok
  have HE := hide hE
  obtain ⟨n, hne⟩ : ∃ n, n = ts.length := ⟨_, rfl⟩
  rw [← hne] at hn ⊢
  have HNE := hide hne
  clear hp hok hE hne
  obtain ⟨w1, hw1⟩ : ∃ w1, w1 = ((w.alloc (.cells Tryd.zeroCells109 109)).alloc (.cells Tryd.zeroCells144 144)).alloc (.cells #[.int .i64 0, .int .i64 0, .int .i64 0, .int .i64 0, .int .i64 0, .int .i64 0, .int .i64 0, .int .i64 0, .int .i64 0, .int .i64 0, .int .i64 0, .int .i64 0, .int .i64 0, .int .i64 0, .int .i64 0, .int .i64 0, .int .i64 0, .int .i64 0, .int .i64 0, .int .i64 0, .int .i64 0, .int .i64 0, .int .i64 0, .int .i64 0, .int .i64 0, .int .i64 0, .int .i64 0, .int .i64 0, .int .i64 0, .int .i64 0, .int .i64 0, .int .i64 0] 145) := ⟨_, rfl⟩
  have hf1 : Fr No w w1 := by rw [hw1]; exact (((Fr.refl _ _).alloc _).alloc _).alloc _
  have hb0 : w1.heap[w.heap.size]? = some (.cells Tryd.zeroCells109 109 (0, 0)) := by rw [hw1]; exact alloc_old (alloc_old (alloc_at w _))
  have hb1 : w1.heap[w.heap.size + 1]? = some (.cells Tryd.zeroCells144 144 (0, 0)) := by rw [hw1]; exact alloc_old (alloc2_at w _ _)
  have hb2 : w1.heap[w.heap.size + 2]? = some (.cells #[.int .i64 0, .int .i64 0, .int .i64 0, .int .i64 0, .int .i64 0, .int .i64 0, .int .i64 0, .int .i64 0, .int .i64 0, .int .i64 0, .int .i64 0, .int .i64 0, .int .i64 0, .int .i64 0, .int .i64 0, .int .i64 0, .int .i64 0, .int .i64 0, .int .i64 0, .int .i64 0, .int .i64 0, .int .i64 0, .int .i64 0, .int .i64 0, .int .i64 0, .int .i64 0, .int .i64 0, .int .i64 0, .int .i64 0, .int .i64 0, .int .i64 0, .int .i64 0] 145 (0, 0)) := by
    rw [hw1]
    have := alloc_at ((w.alloc (.cells Tryd.zeroCells109 109)).alloc (.cells Tryd.zeroCells144 144)) (.cells #[.int .i64 0, .int .i64 0, .int .i64 0, .int .i64 0, .int .i64 0, .int .i64 0, .int .i64 0, .int .i64 0, .int .i64 0, .int .i64 0, .int .i64 0, .int .i64 0, .int .i64 0, .int .i64 0, .int .i64 0, .int .i64 0, .int .i64 0, .int .i64 0, .int .i64 0, .int .i64 0, .int .i64 0, .int .i64 0, .int .i64 0, .int .i64 0, .int .i64 0, .int .i64 0, .int .i64 0, .int .i64 0, .int .i64 0, .int .i64 0, .int .i64 0, .int .i64 0] 145)
    rw [World.size_alloc, World.size_alloc] at this
    exact this
  rw [zc288, ← cntL_nil] at hb1
  have hb2 : w1.heap[w.heap.size + 2]? = some (.cells (ivs (cntL 32 [])) 145 (0, 0)) := by rw [cntL_nil]; exact hb2
  have hc256 : w1.cell? ⟨w.heap.size + 1, 256, none⟩ = some (.int .i64 0) := by rw [cell_of hb1, ivs_get (by rw [cntL_len]; decide), cntL_get 288 [] 256 (by decide)]; rfl
  have hfz := frozen_of hb1 256
  have hset := cntL_set 288 [] 256 (by decide)
  have hb1' : (w1.setCell ⟨w.heap.size + 1, 256, none⟩ (.int .i64 1)).heap[w.heap.size + 1]? = some (.cells (ivs (cntL 288 (symY []))) 144 (0, 0)) := by
    rw [set_of hb1]
    have h2 : (ivs (cntL 288 [])).setIfInBounds 256 (.int .i64 1) = ivs ((cntL 288 []).set 256 1) := ivs_set (x := 1)
    rw [h2]
    exact congrArg (fun l => some (Obj.cells (ivs l) 144 (0, 0))) hset
  have hz1 : Tryd.zeroCells144.setIfInBounds 256 (.int .i64 1) = ivs (cntL 288 (symY [])) := by
    have h2 : (ivs (cntL 288 [])).setIfInBounds 256 (.int .i64 1) = ivs ((cntL 288 []).set 256 1) := ivs_set (x := 1)
    rw [zc288, ← cntL_nil, h2]
    exact congrArg ivs hset
  obtain ⟨w2, hw2⟩ : ∃ w2, w2 = ((w.alloc (.cells Tryd.zeroCells109 109)).alloc (.cells (Tryd.zeroCells144.setIfInBounds 256 (.int .i64 1)) 144)).alloc (.cells #[.int .i64 0, .int .i64 0, .int .i64 0, .int .i64 0, .int .i64 0, .int .i64 0, .int .i64 0, .int .i64 0, .int .i64 0, .int .i64 0, .int .i64 0, .int .i64 0, .int .i64 0, .int .i64 0, .int .i64 0, .int .i64 0, .int .i64 0, .int .i64 0, .int .i64 0, .int .i64 0, .int .i64 0, .int .i64 0, .int .i64 0, .int .i64 0, .int .i64 0, .int .i64 0, .int .i64 0, .int .i64 0, .int .i64 0, .int .i64 0, .int .i64 0, .int .i64 0] 145) := ⟨_, rfl⟩
  have HF1 : Hid (Fr No w w2) := by rw [hw2]; exact (((Fr.refl _ _).alloc _).alloc _).alloc _
  have HB0 : Hid (w2.heap[w.heap.size]? = some (.cells Tryd.zeroCells109 109 (0, 0))) := by rw [hw2]; exact alloc_old (alloc_old (alloc_at w _))
  have HB1 : Hid (w2.heap[w.heap.size + 1]? = some (.cells (ivs (cntL 288 (symY []))) 144 (0, 0))) := by rw [← hz1, hw2]; exact alloc_old (alloc2_at w _ _)
  have HB2 : Hid (w2.heap[w.heap.size + 2]? = some (.cells (ivs (cntL 32 (farY []))) 145 (0, 0))) := by
    rw [hw2]
    have := alloc_at ((w.alloc (.cells Tryd.zeroCells109 109)).alloc (.cells (Tryd.zeroCells144.setIfInBounds 256 (.int .i64 1)) 144)) (.cells #[.int .i64 0, .int .i64 0, .int .i64 0, .int .i64 0, .int .i64 0, .int .i64 0, .int .i64 0, .int .i64 0, .int .i64 0, .int .i64 0, .int .i64 0, .int .i64 0, .int .i64 0, .int .i64 0, .int .i64 0, .int .i64 0, .int .i64 0, .int .i64 0, .int .i64 0, .int .i64 0, .int .i64 0, .int .i64 0, .int .i64 0, .int .i64 0, .int .i64 0, .int .i64 0, .int .i64 0, .int .i64 0, .int .i64 0, .int .i64 0, .int .i64 0, .int .i64 0] 145)
    rw [World.size_alloc, World.size_alloc] at this
    exact this.trans (congrArg (fun l => some (Obj.cells l 145 (0, 0))) (by rw [show farY [] = [] from rfl, cntL_nil]; rfl))
  have HW2 := hide hw2
  rw [hw1] at hc256 hfz
  clear hb0 hb1 hb2 hb1' hset hf1 hw1 hz1 hw2
  go_enter Tryd.func60, Tryd.ntmps60
  go_wp2_with fail
  obtain ⟨rb, hrb⟩ : ∃ rb, rb = w.heap.size := ⟨_, rfl⟩
  obtain ⟨sb, hsb⟩ : ∃ sb, sb = w.heap.size + 1 := ⟨_, rfl⟩
  obtain ⟨db, hdb⟩ : ∃ db, db = w.heap.size + 2 := ⟨_, rfl⟩
  rw [← hsb] at HB1 ⊢
  rw [← hdb] at HB2
  rw [show sb + 1 = db by omega, ← HW2.out]
  rw [← hrb] at HB0 ⊢
  have hrbw : ¬ rb < w.heap.size := by omega
  have hsbw : ¬ sb < w.heap.size := by omega
  have hdbw : ¬ db < w.heap.size := by omega
  have hsd : sb ≠ db := by omega
  have hrs : rb ≠ sb := by omega
  have hrd : rb ≠ db := by omega
  clear hrb hsb hdb hc256 hfz
  go_loopw [14] (fun kv wr => ∃ k : Nat, k ≤ n ∧ kv = .int .i64 k ∧ Hid (wr.heap[sb]? = some (.cells (ivs (cntL 288 (symY (ts.take k)))) 144 (0, 0))) ∧ Hid (wr.heap[db]? = some (.cells (ivs (cntL 32 (farY (ts.take k)))) 145 (0, 0))) ∧ Hid (wr.heap[rb]? = some (.cells Tryd.zeroCells109 109 (0, 0))) ∧ Hid (Fr No w wr)) (fun kv _ => n - (intOf kv).toNat)
  case atStart => exact ⟨0, Nat.zero_le _, rfl, HB1.out, HB2.out, HB0.out, HF1.out⟩
  case round =>
    obtain ⟨k, hk, rfl, HS, HD, HR, HF⟩ := hrel
    by_cases hlt : k < n
    · have hki : (k : Int) < (n : Int) := by omega
      have hkt : k < ts.length := by have := HNE.out; omega
      obtain ⟨g, e, hgK, hg, hx, hy, hz⟩ := HP.out.fr HF.out (fun _ _ => no_no _) k hkt
      subst e
      have htm : ts.getD k (0, 0) ∈ ts := by rw [List.getD, List.getElem?_eq_getElem hkt]; exact List.getElem_mem _
      have htok := HOK.out _ htm
      have HSS := hide (symY_snoc ts k hkt)
      have HFS := hide (farY_snoc ts k hkt)
      have hsl := symY_len (ts.take k)
      have hfl := farY_len (ts.take k)
      rw [List.length_take] at hsl hfl
      obtain ⟨t, ht⟩ : ∃ t, t = ts.getD k (0, 0) := ⟨_, rfl⟩
      rw [← ht] at hx hy hz htok HSS HFS
      have hsym286 := Pk.symOf_lt (t := t) htok.1
      obtain ⟨Z, hZ⟩ : ∃ Z, Z = symY (ts.take k) := ⟨_, rfl⟩
      obtain ⟨F, hF⟩ : ∃ F, F = farY (ts.take k) := ⟨_, rfl⟩
      rw [← hZ] at HS HSS hsl
      rw [← hF] at HD HFS hfl
      have hZl : Z.length ≤ 2000 := by omega
      have hFl : F.length ≤ 2000 := by omega
      obtain ⟨wa, hwa⟩ : ∃ wa, wa = wr.alloc (.cells #[.int .u8 (pch t : Nat), .int .i64 (pln t : Nat), .int .i64 (t.2 : Nat)] 142) := ⟨_, rfl⟩
      have hfa : Fr No wr wa := by rw [hwa]; exact (Fr.refl _ _).alloc _
      obtain ⟨ob, hob⟩ : ∃ ob, ob = wr.heap.size := ⟨_, rfl⟩
      have hba : wa.heap[ob]? = some (.cells #[.int .u8 (pch t : Nat), .int .i64 (pln t : Nat), .int .i64 (t.2 : Nat)] 142 (0, 0)) := by rw [hwa, hob]; exact alloc_at wr _
      have hobs : ob ≠ sb := by have := lt_of HS.out; omega
      have hobd : ob ≠ db := by have := lt_of HD.out; omega
      have HEA := hide ((HE.out.fr HF.out (fun _ _ => no_no _)).fr hfa (fun _ _ => no_no _))
      have HFA := hide (HF.out.trans hfa)
      have HBA := hide hba
      have HSA := hide (hfa.at HS.out (no_no _))
      have HDA := hide (hfa.at HD.out (no_no _))
      have HRA := hide (hfa.at HR.out (no_no _))
      have HWA := hide hwa
      clear hwa hfa hba hsl hfl hZ hF ht htm hg HS HD HR HF
      have HOBE := hide hob
      go_upto_region 7 with fail
      rw [← HWA.out, ← hob]
      clear hob
      have c0 : wa.cell? ⟨ob, 0, none⟩ = some (.int .u8 (pch t : Nat)) := by rw [cell_of HBA.out]; rfl
      have c1 : wa.cell? ⟨ob, 1, none⟩ = some (.int .i64 (pln t : Nat)) := by rw [cell_of HBA.out]; rfl
      have c2 : wa.cell? ⟨ob, 2, none⟩ = some (.int .i64 (t.2 : Nat)) := by rw [cell_of HBA.out]; rfl
      go_wp2_with fail
      have hcs := psymbol_any t wa HEA.out htok.1 (fun h => ⟨(htok.2 h).1, (htok.2 h).2.1⟩)
      rw [partv_eq] at hcs
      refine hcs.mono ?_
      clear hcs c0 c1 c2
      rintro ee w4 ⟨rfl, hf4⟩
      have HB4 := hide (hf4.at HBA.out (no_no _))
      have hsb4 := hf4.at HSA.out (no_no _)
      have HD4 := hide (hf4.at HDA.out (no_no _))
      have HR4 := hide (hf4.at HRA.out (no_no _))
      have HE4 := hide (HEA.out.fr hf4 (fun _ _ => no_no _))
      have HF4 := hide (HFA.out.trans hf4)
      obtain ⟨sy, hsy⟩ : ∃ sy, sy = Pk.symOf t := ⟨_, rfl⟩
      rw [← hsy] at hsym286 HSS ⊢
      have hcnt := cntL_get 288 Z sy (by omega)
      have hset := cntL_set 288 Z sy (by omega)
      have hle := count_len Z sy
      obtain ⟨cx, hcx⟩ : ∃ cx, cx = Z.count sy := ⟨_, rfl⟩
      rw [← hcx] at hcnt hset hle
      have hcell : w4.cell? ⟨sb, sy, none⟩ = some (.int .i64 (cx : Nat)) := by rw [cell_of hsb4, ivs_get (by rw [cntL_len]; omega), hcnt]
      have hfz := frozen_of hsb4 sy
      obtain ⟨cy, hcy⟩ : ∃ cy, cy = cx + 1 := ⟨_, rfl⟩
      have hcyi : (cx : Int) + 1 = (cy : Int) := by omega
      have wcy : IntKind.i64.wrap (cy : Int) = cy := wraps_i64 _ (by omega) (by omega)
      have hsyi : (sy : Int) < 288 := by omega
      obtain ⟨w5, hw5⟩ : ∃ w5, w5 = w4.setCell ⟨sb, sy, none⟩ (.int .i64 (cy : Nat)) := ⟨_, rfl⟩
      have HS5 : Hid (w5.heap[sb]? = some (.cells (ivs (cntL 288 (symY (ts.take (k + 1))))) 144 (0, 0))) := by unfold Hid; rw [hw5, set_of hsb4, ivs_set, hcy, hset, HSS.out]
      have hb5 : w5.heap[ob]? = some (.cells #[.int .u8 (pch t : Nat), .int .i64 (pln t : Nat), .int .i64 (t.2 : Nat)] 142 (0, 0)) := by rw [hw5]; exact (set_other sy _ hobs).trans HB4.out
      have HD5 : Hid (w5.heap[db]? = some (.cells (ivs (cntL 32 F)) 145 (0, 0))) := by rw [hw5]; exact (set_other sy _ (Ne.symm hsd)).trans HD4.out
      have HR5 : Hid (w5.heap[rb]? = some (.cells Tryd.zeroCells109 109 (0, 0))) := by rw [hw5]; exact (set_other sy _ hrs).trans HR4.out
      have hf45 : Fr (One sb) w4 w5 := by rw [hw5]; exact (Fr.refl (One sb) w4).setCell (p := ⟨sb, sy, none⟩) (fun _ => rfl) _
      have HE5 := hide (HE4.out.fr hf45 (fun q hq => one_ne (by have := HE.out.size; omega)))
      have HF5 := hide (HF4.out.new hf45 (by omega))
      have HW5 := hide hw5
      have d1 : (w4.setCell ⟨sb, sy, none⟩ (.int .i64 (cy : Nat))).cell? ⟨ob, 1, none⟩ = some (.int .i64 (pln t : Nat)) := by rw [← hw5, cell_of hb5]; rfl
      have d2 : (w4.setCell ⟨sb, sy, none⟩ (.int .i64 (cy : Nat))).cell? ⟨ob, 2, none⟩ = some (.int .i64 (t.2 : Nat)) := by rw [← hw5, cell_of hb5]; rfl
      have HPL : Hid (pln t = if t.2 = 0 then 0 else t.1) := rfl
      obtain ⟨pl, hpl⟩ : ∃ pl, pl = pln t := ⟨_, rfl⟩
      rw [← hpl] at d1 HPL
      obtain ⟨t2, ht2⟩ : ∃ t2, t2 = t.2 := ⟨_, rfl⟩
      have htok2 := htok.2
      rw [← ht2] at d2 HPL HFS htok2
      clear hcx hcnt hset hle hcy hsb4 hf4 hf45 hw5 hb5 hpl ht2 hsy htok hx hy hz
      by_cases ht0 : t2 = 0
      · have hp0 : pl = 0 := by rw [HPL.out, if_pos ht0]
        subst hp0
        have HT0 := hide ht0
        clear ht0
        go_wp2_with fail
        rw [← HW5.out]
        refine ⟨⟨k + 1, by omega, by go_num, HS5.out, ?_, HR5.out, HF5.out⟩, by simp [intOf]; omega⟩
        unfold Hid
        rw [HFS.out, if_pos HT0.out]
        exact HD5.out
      · have hp1 : pl = t.1 := by rw [HPL.out, if_neg ht0]
        have hp3 := htok2 ht0
        have hpi : (0 : Int) < (pl : Int) := by omega
        have HFA5 := hide (farSym_any t2 w5 HE5.out (by omega) hp3.2.2)
        have HPP := hide hp1
        clear hp1
        go_wp2_with fail
        rw [← HW5.out]
        refine HFA5.out.mono ?_
        rintro ee W1 ⟨rfl, hW1⟩
        have hW1 := hW1.symm
        subst hW1
        have hfl29 := Pk.farSym_le t2
        obtain ⟨fs, hfs⟩ : ∃ fs, fs = Pk.farSym t2 := ⟨_, rfl⟩
        rw [← hfs] at hfl29 HFS ⊢
        have hcnt := cntL_get 32 F fs (by omega)
        have hset := cntL_set 32 F fs (by omega)
        have hle := count_len F fs
        obtain ⟨fx, hfx⟩ : ∃ fx, fx = F.count fs := ⟨_, rfl⟩
        rw [← hfx] at hcnt hset hle
        have hcell2 : w5.cell? ⟨db, fs, none⟩ = some (.int .i64 (fx : Nat)) := by rw [cell_of HD5.out, ivs_get (by rw [cntL_len]; omega), hcnt]
        have hfz2 := frozen_of HD5.out fs
        obtain ⟨fy, hfy⟩ : ∃ fy, fy = fx + 1 := ⟨_, rfl⟩
        have hfyi : (fx : Int) + 1 = (fy : Int) := by omega
        have wfy : IntKind.i64.wrap (fy : Int) = fy := wraps_i64 _ (by omega) (by omega)
        have hfsi : (fs : Int) < 32 := by omega
        have HD6 : Hid ((w5.setCell ⟨db, fs, none⟩ (.int .i64 (fy : Nat))).heap[db]? = some (.cells (ivs (cntL 32 (farY (ts.take (k + 1))))) 145 (0, 0))) := by unfold Hid; rw [set_of HD5.out, ivs_set, hfy, hset, HFS.out, if_neg ht0]
        have HS6 : Hid ((w5.setCell ⟨db, fs, none⟩ (.int .i64 (fy : Nat))).heap[sb]? = some (.cells (ivs (cntL 288 (symY (ts.take (k + 1))))) 144 (0, 0))) := (set_other fs _ hsd).trans HS5.out
        have HR6 : Hid ((w5.setCell ⟨db, fs, none⟩ (.int .i64 (fy : Nat))).heap[rb]? = some (.cells Tryd.zeroCells109 109 (0, 0))) := (set_other fs _ hrd).trans HR5.out
        have HF6 : Hid (Fr No w (w5.setCell ⟨db, fs, none⟩ (.int .i64 (fy : Nat)))) := HF5.out.setCell (p := ⟨db, fs, none⟩) (fun h => absurd h hdbw) _
        clear hcnt hset hle hfx hfy d1 d2 hcell hfz hfs
        go_wp2_with fail
        refine ⟨⟨k + 1, by omega, by go_num, HS6.out, HD6.out, HR6.out, HF6.out⟩, by simp [intOf]; omega⟩
    · have hke : k = n := by omega
      subst hke
      have hki : ¬ (k : Int) < (k : Int) := by omega
      have htk : ts.take k = ts := List.take_of_length_le (by have := HNE.out; omega)
      rw [htk] at HS HD
      clear htk
      have HD3 : Hid (wr.heap[db]? = some (.cells (ivs (Pk.farC ts)) 145 (0, 0))) := by rw [farC_eq]; exact HD.out
      have HCF : Hid (∀ i, cf (Pk.farC ts) i ≤ 2000) := fun i => by
        rw [Pk.cf_farC]
        split
        · have h1 := count_len (farY ts) i
          have h2 := farY_len ts
          have h3 : Pk.farCnt ts i = (farY ts).count i := rfl
          have := HNE.out
          omega
        · omega
      have HCS : Hid (∀ i, cf (Pk.symC ts) i ≤ 2000) := fun i => by
        rw [Pk.cf_symC]
        split
        · unfold Pk.symCnt
          have h1 := count_len (ts.map Pk.symOf) i
          rw [List.length_map] at h1
          have := HNE.out
          split <;> split <;> omega
        · omega
      by_cases hn0 : k = 0
      · subst hn0
        have hts : ts = [] := List.eq_nil_of_length_eq_zero (by have := HNE.out; omega)
        have hcell : wr.cell? ⟨sb, 0, none⟩ = some (.int .i64 0) := by
          rw [cell_of HS.out, ivs_get (by rw [cntL_len]; decide), cntL_get 288 _ 0 (by decide), hts]; rfl
        have hfz := frozen_of HS.out 0
        have hset := cntL_set 288 (symY ts) 0 (by decide)
        obtain ⟨wx, hwx⟩ : ∃ wx, wx = wr.setCell ⟨sb, 0, none⟩ (.int .i64 1) := ⟨_, rfl⟩
        have HS3 : Hid (wx.heap[sb]? = some (.cells (ivs (Pk.symC ts)) 144 (0, 0))) := by
          unfold Hid
          rw [hwx, set_of HS.out, symC_eq, if_pos hts, ← hset]
          have e1 : (symY ts).count 0 = 0 := by rw [hts]; rfl
          rw [e1]
          exact congrArg (fun l => some (Obj.cells l 144 (0, 0))) (ivs_set (x := 1))
        have HD3 : Hid (wx.heap[db]? = some (.cells (ivs (Pk.farC ts)) 145 (0, 0))) := by rw [hwx]; exact (set_other 0 _ (Ne.symm hsd)).trans HD3.out
        have HR3 : Hid (wx.heap[rb]? = some (.cells Tryd.zeroCells109 109 (0, 0))) := by rw [hwx]; exact (set_other 0 _ hrs).trans HR.out
        have HFX : Hid (Fr No w wx) := by rw [hwx]; exact HF.out.setCell (p := ⟨sb, 0, none⟩) (fun h => absurd h hsbw) _
        have HWX := hide hwx
        clear hwx hset hts
        go_upto_region 13 with fail
        rw [← HWX.out]
        clear hcell hfz HWX
        have hcl1 : (Pk.symC ts).length = 288 := by simp [Pk.symC]
        have hcl2 : (Pk.farC ts).length = 32 := by simp [Pk.farC]
        obtain ⟨we, hwe⟩ : ∃ we, we = wx.alloc (.cells Tryd.zeroCells109 109) := ⟨_, rfl⟩
        obtain ⟨lb, hlb⟩ : ∃ lb, lb = wx.heap.size := ⟨_, rfl⟩
        have hfe : Fr No wx we := by rw [hwe]; exact (Fr.refl _ _).alloc _
        have hlbb : we.heap[lb]? = some (.cells (uvs (List.replicate 320 0)) 109 (0, 0)) := by rw [hwe, hlb]; exact alloc_at wx _
        have HLB := hide hlbb
        have HFE := hide (HFX.out.trans hfe)
        have hI1 : IntsAt we sb (Pk.symC ts) := ints_of (hfe.at HS3.out (no_no _))
        have hI2 : IntsAt we db (Pk.farC ts) := ints_of (hfe.at HD3.out (no_no _))
        have HI1 := hide hI1
        have HI2 := hide hI2
        have HR0 := hide (hfe.at HR3.out (no_no _))
        have HWE := hide hwe
        have hlbw : ¬ lb < w.heap.size := by have := HFX.out.size; omega
        have hrbl : rb ≠ lb := by have := lt_of HR3.out; omega
        have hdbl : db ≠ lb := by have := lt_of HD3.out; omega
        clear hwe hfe hlbb hI1 hI2
        go_upto_region 13 with fail
        go_wp2_with fail
        rw [← HWE.out, ← hlb]
        clear hlb
        go_upto_region 14 with fail
        refine wp_region_held (S := fun _ => True) (by kernel_rfl) ?_
        change wpAnyH _ _ _ _ _ _ _ _ (World.drew _)
        refine wpAnyH_take (i := 0) (v := .slice (some ⟨lb, 0, none⟩) 288 320) rfl (by kernel_rfl) (by kernel_rfl) (by kernel_rfl) (fun _ _ _ h => h) (Or.inl ⟨by kernel_rfl, by intro w _; go_simp⟩) trivial ?_
        refine wpAnyH_take (i := 1) (v := .slice (some ⟨sb, 0, none⟩) 288 288) rfl (by kernel_rfl) (by kernel_rfl) (by kernel_rfl) (fun _ _ _ h => h) (Or.inl ⟨by kernel_rfl, by intro w _; go_simp⟩) trivial ?_
        refine wpAnyH_one (i := 2) (by kernel_rfl) rfl (by kernel_rfl) (fun K'' hK' => ?_)
        go_simp
        have hwd : Fr No we (World.drew we) := (Fr.refl No we).drew
        have hbA := best_any sb 288 15 (Pk.symC ts) (World.drew we) (HI1.out.fr hwd (no_no _)) (by rw [hcl1]; decide) HCS.out (by omega) (by omega) (by rw [hcl1]; decide)
        rw [hcl1] at hbA
        refine hbA.mono ?_
        clear hbA
        rintro ee wf ⟨ga, Xa, hga, rfl, hgab, hXa, hSa, hfa⟩
        rw [hcl1]
        refine hK' _ _ trivial ?_
        clear hK' K''
        have hbstA : Bst (Pk.symC ts) 15 (lens (Pk.symC ts) Xa 15) := bst_lens hXa hSa (by omega) (by rw [hcl1]; decide)
        obtain ⟨la, hla⟩ : ∃ la, la = lens (Pk.symC ts) Xa 15 := ⟨_, rfl⟩
        rw [← hla] at hgab hbstA
        have hlal : la.length = 288 := by rw [hbstA.len, hcl1]
        have hff : Fr No we wf := hwd.trans hfa
        have hlbf := hff.at HLB.out (no_no _)
        refine wpAnyH_one (i := 3) (by kernel_rfl) rfl (by kernel_rfl) (fun K'' hK' => ?_)
        refine wp_copy_r (.tmp 42) (.tmp 44) 51 51 5 rfl lb 0 288 320 rfl ga 0 288 288 rfl (uvs (List.replicate 320 0)) 109 (uvl la) Tryd.underlying51 (by kernel_rfl) hlbf (by rw [uvl_len, hlal]; rfl) (uvl_src hgab) (by rw [uvl_len, hlal, uvs_size, List.length_replicate]; decide) (uvl_one la) _ (cpa la hlal) ?_
        intro wg hlbg hfg
        refine hK' _ _ trivial ?_
        clear hK' K''
        refine wpAnyH_done (by kernel_rfl) ?_ _
        simp only [List.getElem_toArray, List.getElem_cons_succ, List.getElem_cons_zero]
        go_frame
        have HBA := hide hbstA
        have hlbl : lb < we.heap.size := lt_of HLB.out
        have HFG : Hid (Fr No w wg) := (HFE.out.trans hff).new hfg (by omega)
        have HLG := hide hlbg
        have HIG := hide ((HI2.out.fr hff (no_no _)).fr hfg (one_ne hdbl))
        have HRG := hide (hfg.at (hff.at HR0.out (no_no _)) (one_ne hrbl))
        clear hla hlbf hgab hXa hSa hfa hff hga hlbg hfg hbstA hwd
        go_upto_region 15 with fail
        refine wp_region_held (S := fun _ => True) (by kernel_rfl) ?_
        change wpAnyH _ _ _ _ _ _ _ _ (World.drew _)
        refine wpAnyH_take (i := 0) (v := .slice (some ⟨lb, 288, none⟩) 32 32) rfl (by kernel_rfl) (by kernel_rfl) (by kernel_rfl) (fun _ _ _ h => h) (Or.inl ⟨by kernel_rfl, by intro w _; go_simp⟩) trivial ?_
        refine wpAnyH_take (i := 1) (v := .slice (some ⟨db, 0, none⟩) 32 32) rfl (by kernel_rfl) (by kernel_rfl) (by kernel_rfl) (fun _ _ _ h => h) (Or.inl ⟨by kernel_rfl, by intro w _; go_simp⟩) trivial ?_
        refine wpAnyH_one (i := 2) (by kernel_rfl) rfl (by kernel_rfl) (fun K'' hK' => ?_)
        go_simp
        have hwd : Fr No wg (World.drew wg) := (Fr.refl No wg).drew
        have hbB := best_any db 32 15 (Pk.farC ts) (World.drew wg) (HIG.out.fr hwd (no_no _)) (by rw [hcl2]; decide) HCF.out (by omega) (by omega) (by rw [hcl2]; decide)
        rw [hcl2] at hbB
        refine hbB.mono ?_
        clear hbB
        rintro ee wh ⟨gb, Xb, hgb, rfl, hgbb, hXb, hSb, hfb⟩
        rw [hcl2]
        refine hK' _ _ trivial ?_
        clear hK' K''
        have hbstB : Bst (Pk.farC ts) 15 (lens (Pk.farC ts) Xb 15) := bst_lens hXb hSb (by omega) (by rw [hcl2]; decide)
        obtain ⟨lc, hlc⟩ : ∃ lc, lc = lens (Pk.farC ts) Xb 15 := ⟨_, rfl⟩
        rw [← hlc] at hgbb hbstB
        have hlcl : lc.length = 32 := by rw [hbstB.len, hcl2]
        have hff : Fr No wg wh := hwd.trans hfb
        have hlbh := hff.at HLG.out (no_no _)
        refine wpAnyH_one (i := 3) (by kernel_rfl) rfl (by kernel_rfl) (fun K'' hK' => ?_)
        refine wp_copy_r (.tmp 46) (.tmp 48) 51 51 5 rfl lb 288 32 32 rfl gb 0 32 32 rfl (uvs (la ++ List.replicate 32 0)) 109 (uvl lc) Tryd.underlying51 (by kernel_rfl) hlbh (by rw [uvl_len, hlcl]; rfl) (uvl_src hgbb) (by rw [uvl_len, hlcl, uvs_size, List.length_append, List.length_replicate, hlal]; decide) (uvl_one lc) _ (cpb la lc hlal hlcl) ?_
        intro wk hlbk hfk
        refine hK' _ _ trivial ?_
        clear hK' K''
        refine wpAnyH_done (by kernel_rfl) ?_ _
        simp only [List.getElem_toArray, List.getElem_cons_succ, List.getElem_cons_zero]
        go_frame
        have HBB := hide hbstB
        have HFK : Hid (Fr No w wk) := (HFG.out.trans hff).new hfk (by omega)
        have HLK := hide hlbk
        have HRK := hide (hfk.at (hff.at HRG.out (no_no _)) (one_ne hrbl))
        have hall : (la ++ lc).length = 320 := by rw [List.length_append, hlal, hlcl]
        clear hlc hlbh hgbb hXb hSb hfb hff hgb hlbk hfk hbstB hwd
        go_wp2_with (first | (refine wpList_load_row rfl 109 (.tmp 7) rfl lb rfl 109 (uvs (la ++ lc)) (0, 0) _ (by exact HLK.out) Tryd.underlying109 rfl (by rw [uvs_size, hall]; kernel_rfl) ?_) | (refine wpList_store_row rfl 109 (.tmp 2) (.tmp 50) rfl rb (uvs (la ++ lc)) rfl rfl 109 (uvs (List.replicate 320 0)) (by exact HRK.out) (by rw [uvs_size, hall]; kernel_rfl) (by rw [uvs_size, uvs_size, hall, List.length_replicate]) (by simp [uvs, uv, Value.oneCell']) ?_))
        have hfin : (wk.setRow rb (uvs (la ++ lc))).heap[rb]? = some (.cells (uvs (la ++ lc)) 109 (0, 0)) := setRow_heap _ _ _ _ _ _ HRK.out
        refine bodyPost_ret (results_cell_row rfl _ _ rb 109 _ (0, 0) _ rfl hfin Tryd.underlying109 rfl (by rw [uvs_size, hall]; kernel_rfl)) rfl ?_
        refine ⟨la, lc, HBA.out, HBB.out, rfl, HFK.out.os, HFK.out.tape, HFK.out.output, by rw [size_setRow]; exact HFK.out.size, fun k hk _ => ?_⟩
        rw [setRow_other _ _ _ _ (by omega)]; exact HFK.out.block k hk (no_no _)
      · have hn0i : ((k : Int) == 0) = false := by simp; omega
        have hts : ts ≠ [] := fun e => by have := HNE.out; rw [e] at this; simp at this; omega
        have HS3 : Hid (wr.heap[sb]? = some (.cells (ivs (Pk.symC ts)) 144 (0, 0))) := by rw [symC_eq, if_neg hts]; exact HS.out
        have HR3 := HR
        have HFX := HF
        clear hts
        have hcl1 : (Pk.symC ts).length = 288 := by simp [Pk.symC]
        have hcl2 : (Pk.farC ts).length = 32 := by simp [Pk.farC]
        obtain ⟨we, hwe⟩ : ∃ we, we = wr.alloc (.cells Tryd.zeroCells109 109) := ⟨_, rfl⟩
        obtain ⟨lb, hlb⟩ : ∃ lb, lb = wr.heap.size := ⟨_, rfl⟩
        have hfe : Fr No wr we := by rw [hwe]; exact (Fr.refl _ _).alloc _
        have hlbb : we.heap[lb]? = some (.cells (uvs (List.replicate 320 0)) 109 (0, 0)) := by rw [hwe, hlb]; exact alloc_at wr _
        have HLB := hide hlbb
        have HFE := hide (HFX.out.trans hfe)
        have hI1 : IntsAt we sb (Pk.symC ts) := ints_of (hfe.at HS3.out (no_no _))
        have hI2 : IntsAt we db (Pk.farC ts) := ints_of (hfe.at HD3.out (no_no _))
        have HI1 := hide hI1
        have HI2 := hide hI2
        have HR0 := hide (hfe.at HR3.out (no_no _))
        have HWE := hide hwe
        have hlbw : ¬ lb < w.heap.size := by have := HFX.out.size; omega
        have hrbl : rb ≠ lb := by have := lt_of HR3.out; omega
        have hdbl : db ≠ lb := by have := lt_of HD3.out; omega
        clear hwe hfe hlbb hI1 hI2
        go_upto_region 13 with fail
        go_wp2_with fail
        rw [← HWE.out, ← hlb]
        clear hlb
        go_upto_region 14 with fail
        refine wp_region_held (S := fun _ => True) (by kernel_rfl) ?_
        change wpAnyH _ _ _ _ _ _ _ _ (World.drew _)
        refine wpAnyH_take (i := 0) (v := .slice (some ⟨lb, 0, none⟩) 288 320) rfl (by kernel_rfl) (by kernel_rfl) (by kernel_rfl) (fun _ _ _ h => h) (Or.inl ⟨by kernel_rfl, by intro w _; go_simp⟩) trivial ?_
        refine wpAnyH_take (i := 1) (v := .slice (some ⟨sb, 0, none⟩) 288 288) rfl (by kernel_rfl) (by kernel_rfl) (by kernel_rfl) (fun _ _ _ h => h) (Or.inl ⟨by kernel_rfl, by intro w _; go_simp⟩) trivial ?_
        refine wpAnyH_one (i := 2) (by kernel_rfl) rfl (by kernel_rfl) (fun K'' hK' => ?_)
        go_simp
        have hwd : Fr No we (World.drew we) := (Fr.refl No we).drew
        have hbA := best_any sb 288 15 (Pk.symC ts) (World.drew we) (HI1.out.fr hwd (no_no _)) (by rw [hcl1]; decide) HCS.out (by omega) (by omega) (by rw [hcl1]; decide)
        rw [hcl1] at hbA
        refine hbA.mono ?_
        clear hbA
        rintro ee wf ⟨ga, Xa, hga, rfl, hgab, hXa, hSa, hfa⟩
        rw [hcl1]
        refine hK' _ _ trivial ?_
        clear hK' K''
        have hbstA : Bst (Pk.symC ts) 15 (lens (Pk.symC ts) Xa 15) := bst_lens hXa hSa (by omega) (by rw [hcl1]; decide)
        obtain ⟨la, hla⟩ : ∃ la, la = lens (Pk.symC ts) Xa 15 := ⟨_, rfl⟩
        rw [← hla] at hgab hbstA
        have hlal : la.length = 288 := by rw [hbstA.len, hcl1]
        have hff : Fr No we wf := hwd.trans hfa
        have hlbf := hff.at HLB.out (no_no _)
        refine wpAnyH_one (i := 3) (by kernel_rfl) rfl (by kernel_rfl) (fun K'' hK' => ?_)
        refine wp_copy_r (.tmp 42) (.tmp 44) 51 51 5 rfl lb 0 288 320 rfl ga 0 288 288 rfl (uvs (List.replicate 320 0)) 109 (uvl la) Tryd.underlying51 (by kernel_rfl) hlbf (by rw [uvl_len, hlal]; rfl) (uvl_src hgab) (by rw [uvl_len, hlal, uvs_size, List.length_replicate]; decide) (uvl_one la) _ (cpa la hlal) ?_
        intro wg hlbg hfg
        refine hK' _ _ trivial ?_
        clear hK' K''
        refine wpAnyH_done (by kernel_rfl) ?_ _
        simp only [List.getElem_toArray, List.getElem_cons_succ, List.getElem_cons_zero]
        go_frame
        have HBA := hide hbstA
        have hlbl : lb < we.heap.size := lt_of HLB.out
        have HFG : Hid (Fr No w wg) := (HFE.out.trans hff).new hfg (by omega)
        have HLG := hide hlbg
        have HIG := hide ((HI2.out.fr hff (no_no _)).fr hfg (one_ne hdbl))
        have HRG := hide (hfg.at (hff.at HR0.out (no_no _)) (one_ne hrbl))
        clear hla hlbf hgab hXa hSa hfa hff hga hlbg hfg hbstA hwd
        go_upto_region 15 with fail
        refine wp_region_held (S := fun _ => True) (by kernel_rfl) ?_
        change wpAnyH _ _ _ _ _ _ _ _ (World.drew _)
        refine wpAnyH_take (i := 0) (v := .slice (some ⟨lb, 288, none⟩) 32 32) rfl (by kernel_rfl) (by kernel_rfl) (by kernel_rfl) (fun _ _ _ h => h) (Or.inl ⟨by kernel_rfl, by intro w _; go_simp⟩) trivial ?_
        refine wpAnyH_take (i := 1) (v := .slice (some ⟨db, 0, none⟩) 32 32) rfl (by kernel_rfl) (by kernel_rfl) (by kernel_rfl) (fun _ _ _ h => h) (Or.inl ⟨by kernel_rfl, by intro w _; go_simp⟩) trivial ?_
        refine wpAnyH_one (i := 2) (by kernel_rfl) rfl (by kernel_rfl) (fun K'' hK' => ?_)
        go_simp
        have hwd : Fr No wg (World.drew wg) := (Fr.refl No wg).drew
        have hbB := best_any db 32 15 (Pk.farC ts) (World.drew wg) (HIG.out.fr hwd (no_no _)) (by rw [hcl2]; decide) HCF.out (by omega) (by omega) (by rw [hcl2]; decide)
        rw [hcl2] at hbB
        refine hbB.mono ?_
        clear hbB
        rintro ee wh ⟨gb, Xb, hgb, rfl, hgbb, hXb, hSb, hfb⟩
        rw [hcl2]
        refine hK' _ _ trivial ?_
        clear hK' K''
        have hbstB : Bst (Pk.farC ts) 15 (lens (Pk.farC ts) Xb 15) := bst_lens hXb hSb (by omega) (by rw [hcl2]; decide)
        obtain ⟨lc, hlc⟩ : ∃ lc, lc = lens (Pk.farC ts) Xb 15 := ⟨_, rfl⟩
        rw [← hlc] at hgbb hbstB
        have hlcl : lc.length = 32 := by rw [hbstB.len, hcl2]
        have hff : Fr No wg wh := hwd.trans hfb
        have hlbh := hff.at HLG.out (no_no _)
        refine wpAnyH_one (i := 3) (by kernel_rfl) rfl (by kernel_rfl) (fun K'' hK' => ?_)
        refine wp_copy_r (.tmp 46) (.tmp 48) 51 51 5 rfl lb 288 32 32 rfl gb 0 32 32 rfl (uvs (la ++ List.replicate 32 0)) 109 (uvl lc) Tryd.underlying51 (by kernel_rfl) hlbh (by rw [uvl_len, hlcl]; rfl) (uvl_src hgbb) (by rw [uvl_len, hlcl, uvs_size, List.length_append, List.length_replicate, hlal]; decide) (uvl_one lc) _ (cpb la lc hlal hlcl) ?_
        intro wk hlbk hfk
        refine hK' _ _ trivial ?_
        clear hK' K''
        refine wpAnyH_done (by kernel_rfl) ?_ _
        simp only [List.getElem_toArray, List.getElem_cons_succ, List.getElem_cons_zero]
        go_frame
        have HBB := hide hbstB
        have HFK : Hid (Fr No w wk) := (HFG.out.trans hff).new hfk (by omega)
        have HLK := hide hlbk
        have HRK := hide (hfk.at (hff.at HRG.out (no_no _)) (one_ne hrbl))
        have hall : (la ++ lc).length = 320 := by rw [List.length_append, hlal, hlcl]
        clear hlc hlbh hgbb hXb hSb hfb hff hgb hlbk hfk hbstB hwd
        go_wp2_with (first | (refine wpList_load_row rfl 109 (.tmp 7) rfl lb rfl 109 (uvs (la ++ lc)) (0, 0) _ (by exact HLK.out) Tryd.underlying109 rfl (by rw [uvs_size, hall]; kernel_rfl) ?_) | (refine wpList_store_row rfl 109 (.tmp 2) (.tmp 50) rfl rb (uvs (la ++ lc)) rfl rfl 109 (uvs (List.replicate 320 0)) (by exact HRK.out) (by rw [uvs_size, hall]; kernel_rfl) (by rw [uvs_size, uvs_size, hall, List.length_replicate]) (by simp [uvs, uv, Value.oneCell']) ?_))
        have hfin : (wk.setRow rb (uvs (la ++ lc))).heap[rb]? = some (.cells (uvs (la ++ lc)) 109 (0, 0)) := setRow_heap _ _ _ _ _ _ HRK.out
        refine bodyPost_ret (results_cell_row rfl _ _ rb 109 _ (0, 0) _ rfl hfin Tryd.underlying109 rfl (by rw [uvs_size, hall]; kernel_rfl)) rfl ?_
        refine ⟨la, lc, HBA.out, HBB.out, rfl, HFK.out.os, HFK.out.tape, HFK.out.output, by rw [size_setRow]; exact HFK.out.size, fun k hk _ => ?_⟩
        rw [setRow_other _ _ _ _ (by omega)]; exact HFK.out.block k hk (no_no _)
end Go.Proofs.YtjjjlilflbddoaaDoor
