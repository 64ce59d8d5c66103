import Derived.Test.YtjjjlilflbddoaaGreatDoorPtL
import Derived.Test.YtjjjlilflbddoaaGreatDoorGPkO
import Derived.Test.YtjjjlilflbddoaaGreatDoorGFix
import Derived.Test.YtjjjlilflbddoaaGreatDoorPtK
/-
  A text packed.
-/
namespace Go.Proofs.YtjjjlilflbddoaaGreatDoor
open Go.RowKit Pm

section
variable {B wb : Nat} {K : List Nat} {bs : List Nat} {w w' : World} {dv : Value}
theorem wconv (h : Wr B wb K bs w dv) : (convert 61 9 dv).run Tryz.prog w = .ok (.string ⟨(Pk.toBytes bs).toArray⟩) w := by
  rcases h.row.2 with ⟨h1, h0⟩ | ⟨g, cap, cur, hv, _, hg, hc, _, hs, ht⟩
  · have e : Pk.toBytes bs = [] := List.length_eq_zero_iff.1 h0
    rw [e, h1, run_convert_bytes_string w 61 9 5 none 0 0 Tryz.underlying61 Tryz.underlying5 Tryz.underlying9]
    rfl
  · rw [hv]
    refine run_convert_bytes_back w 61 9 5 ⟨g, 0, none⟩ cap (Pk.toBytes bs) Tryz.underlying61 Tryz.underlying5 Tryz.underlying9 (fun j hj => ?_)
    have e4 : (⟨g, 0, none⟩ : Addr).add j = ⟨g, j, none⟩ := by simp only [Addr.add]; split <;> simp_all
    rw [e4, cell_of hg, ← Array.getElem?_toList]
    have h5 : (cur.toList.take ((Pk.toBytes bs).length * 1))[j]? = ((Pk.toBytes bs).map bv)[j]? := by rw [ht]
    rw [List.getElem?_take_of_lt (by omega), List.getElem?_map, List.getElem?_eq_getElem hj] at h5
    rw [h5]
    rfl
theorem fr_own (f : Fr No w w') {w2 : World} (f2 : Fr (Own B K) w' w2) (hB : w.heap.size ≤ B) : Fr No w w2 :=
  ⟨f2.os.trans f.os, f2.tape.trans f.tape, f2.output.trans f.output, Nat.le_trans f.size f2.size, fun k hk _ => (f2.block k (Nat.lt_of_lt_of_le hk f.size) (own_low (by omega))).trans (f.block k hk (no_no _))⟩
theorem wr_nil (w : World) : Wr w.heap.size w.heap.size [] [] (w.alloc (.cells #[.slice none 0 0, .int .i64 0] 99)) (.slice none 0 0) where
  blk := alloc_at w _
  row := World.ownsRow_nil _ _ _ _
  far := fun g h => by simp [Value.ownBlock] at h
  bits := fun b h => by cases h
  wbB := Nat.le_refl _
  bsz := by rw [World.size_alloc]; omega
  wbK := by simp
  klt := fun k h => by cases h
  len := by decide
end
/-- The fixed lengths, behind a name. -/
def fxl : List Nat := (List.range 320).map Gz.fixedLen
theorem fxl_len : fxl.length = 320 := by simp [fxl]
theorem fxl_at (w : World) : Calls Tryz.prog 49 #[] w fun e w' => e = .returned (.agg (uvs fxl)) ∧ Fr No w w' := fixedLengths_any w
theorem fxl_lens : Lens fxl := by
  unfold fxl
  intro i hi
  have h : i < 320 := by simpa using hi
  have e : ((List.range 320).map Gz.fixedLen).getD i 0 = Gz.fixedLen i := by simp [List.getD, h]
  rw [e]; unfold Gz.fixedLen
  split <;> (try omega); split <;> (try omega); split <;> (try omega); split <;> omega
theorem fxl_a : fxl.take 288 = Rf.fixedA := by kernel_rfl
theorem fxl_b : fxl.drop 288 = Rf.fixedB := by kernel_rfl
/-- What Pack comes to. -/
def PackP (bs : List Nat) (w : World) (e : Ending) (w' : World) : Prop := e = .returned (.string ⟨(Pk.toBytes bs).toArray⟩) ∧ Fr No w w'

set_option maxRecDepth 100000 in
set_option maxHeartbeats 3200000 in
theorem pack0_any (t : ByteArray) (w : World) (ht : t.size ≤ 1500) : Calls Tryz.prog 33 #[.string t, .int .i64 0] w (PackP (Pk.packed0 t.data.toList) w) := by
  have hW1 := wr_nil w
  obtain ⟨w1, hw1⟩ : ∃ w1, w1 = w.alloc (.cells #[.slice none 0 0, .int .i64 0] 99) := ⟨_, rfl⟩
  have HF1 : Hid (Fr No w w1) := by rw [hw1]; exact (Fr.refl _ _).alloc _
  rw [← hw1] at hW1
  obtain ⟨wb, hwb⟩ : ∃ wb, wb = w.heap.size := ⟨_, rfl⟩
  rw [← hwb] at hW1
  have HN := hide (wnumber_any wb wb [] [] 1 1 w1 _ hW1 (by omega) (by decide))
  have HW1 := hide hw1
  have HWB := hide hwb
  clear hw1 hwb hW1
  go_enter Tryz.func33, Tryz.ntmps33
  go_wp2_with fail
  rw [← HW1.out, ← HWB.out]
  refine HN.out.mono ?_
  rintro ee w2 ⟨rfl, hf2, dv2, hW2⟩
  have HF2 := hide (fr_own HF1.out hf2 (Nat.le_of_eq HWB.out.symm))
  have HN2 := hide (wnumber_any wb wb [] _ 0 2 w2 _ hW2 (by omega) (by decide))
  clear hf2 hW2
  go_wp2_with fail
  refine HN2.out.mono ?_
  rintro ee w3 ⟨rfl, hf3, dv3, hW3⟩
  have HF3 := hide (fr_own HF2.out hf3 (Nat.le_of_eq HWB.out.symm))
  have HS := hide (wstored_any wb wb [] _ t w3 _ hW3 ht (by decide))
  clear hf3 hW3
  go_wp2_with fail
  refine HS.out.mono ?_
  rintro ee w4 ⟨rfl, hf4, dv4, hW4⟩
  have HF4 := hide (fr_own HF3.out hf4 (Nat.le_of_eq HWB.out.symm))
  have c0 := hW4.c0
  have hcv := wconv hW4
  have hcv2 := hcv
  clear hf4 hW4
  go_wp2_with fail
  go_ret
  exact ⟨rfl, HF4.out⟩

theorem parts_of {w : World} {B : Nat} {pv : Value} {ts : List (Nat × Nat)} (h : w.ownsRow B 137 3 pv ts.length (ts.flatMap partv)) : ∃ ao cap K, pv = .slice ao ts.length cap ∧ PartsAt w K ao ts ∧ ∀ k ∈ K, B ≤ k ∧ k < w.heap.size := by
  rcases h.2 with ⟨h1, h0⟩ | ⟨g, cap, cur, hv, hB, hg, r⟩
  · exact ⟨none, 0, [], by rw [h1, h0], fun k hk => by omega, fun k hk => by cases hk⟩
  · subst hv
    refine ⟨some ⟨g, 0, none⟩, cap, [g], rfl, fun k hk => ?_, fun k hk => by rw [List.mem_singleton] at hk; subst hk; exact ⟨hB, lt_of hg⟩⟩
    obtain ⟨x, y, z, e, h1, h2, h3⟩ := part_cells h k hk
    rw [partv_eq] at e
    injection e with e1 e
    injection e with e2 e
    injection e with e3 e
    subst e1 e2 e3
    exact ⟨g, rfl, List.mem_singleton.2 rfl, lt_of hg, h1, h2, h3⟩
theorem toks_okT (d : List UInt8) (hd : d.length ≤ 1500) : ∀ t ∈ Pk.toks d, TokOk t := fun t ht => by
  have h := Pk.toks_lt d d.length 0 (by omega) t ht
  exact ⟨h.1, fun h0 => by have := h.2 h0; omega⟩
theorem bys_of {w : World} {g : Nat} {l : List Nat} {ty : TypeId} (h : w.heap[g]? = some (.cells (uvs l) ty (0, 0))) : Bys w g 0 l := ⟨lt_of h, fun i hi => by rw [Nat.zero_add, cell_of h]; exact uvs_get hi⟩

set_option maxRecDepth 100000 in
set_option maxHeartbeats 6400000 in
theorem pack1_any (t : ByteArray) (w : World) (ht : t.size ≤ 1500) (hE : PkEnv w) : Calls Tryz.prog 33 #[.string t, .int .i64 1] w (PackP (Pk.packed1 t.data.toList) w) := by
  have htl : t.data.toList.length = t.size := by simp
  have HTL := hide htl
  have hW1 := wr_nil w
  obtain ⟨w1, hw1⟩ : ∃ w1, w1 = w.alloc (.cells #[.slice none 0 0, .int .i64 0] 99) := ⟨_, rfl⟩
  have HF1 : Hid (Fr No w w1) := by rw [hw1]; exact (Fr.refl _ _).alloc _
  rw [← hw1] at hW1
  obtain ⟨wb, hwb⟩ : ∃ wb, wb = w.heap.size := ⟨_, rfl⟩
  rw [← hwb] at hW1
  have HN := hide (wnumber_any wb wb [] [] 1 1 w1 _ hW1 (by omega) (by decide))
  have HW1 := hide hw1
  have HWB := hide hwb
  have HE := hide hE
  have hG : 11 ≤ wb := by rw [hwb]; exact hE.size
  have HGB := hide hG
  clear hw1 hwb hW1 hE htl hG
  go_enter Tryz.func33, Tryz.ntmps33
  go_wp2_with fail
  rw [← HW1.out, ← HWB.out]
  refine HN.out.mono ?_
  rintro ee w2 ⟨rfl, hf2, dv2, hW2⟩
  have HF2 := hide (fr_own HF1.out hf2 (Nat.le_of_eq HWB.out.symm))
  have HN2 := hide (wnumber_any wb wb [] _ 1 2 w2 _ hW2 (by omega) (by decide))
  clear hf2 hW2
  go_wp2_with fail
  refine HN2.out.mono ?_
  rintro ee w3 ⟨rfl, hf3, dv3, hW3⟩
  have HF3 := hide (fr_own HF2.out hf3 (Nat.le_of_eq HWB.out.symm))
  obtain ⟨b3, hb3⟩ : ∃ b3, b3 = [] ++ Pk.numBits 1 1 ++ Pk.numBits 1 2 := ⟨_, rfl⟩
  rw [← hb3] at hW3
  have hb3l : b3.length = 3 := by rw [hb3]; rfl
  have HWR3 := hide hW3
  have HB3 := hide hb3
  have HPO := hide (partsOf_any t w3 ht)
  clear hf3 hW3 hb3
  go_wp2_with fail
  refine HPO.out.mono ?_
  rintro ee w4 ⟨pv, rfl, hrow, hf4⟩
  obtain ⟨ao, cap, K, rfl, hpa, hK⟩ := parts_of hrow
  have HPA := hide hpa
  have hWK := HWR3.out.more hf4 hK
  rw [List.append_nil] at hWK
  have HWR4 := hide hWK
  have HF4 := hide (HF3.out.trans hf4)
  have HOK := hide (toks_okT t.data.toList (by rw [HTL.out]; exact ht))
  have HTN : Hid ((Pk.toks t.data.toList).length ≤ 1500) := by have := Pk.toks_len t.data.toList; have := HTL.out; unfold Hid; omega
  obtain ⟨ts, hts⟩ : ∃ ts, ts = Pk.toks t.data.toList := ⟨_, rfl⟩
  rw [← hts] at HPA HOK HTN ⊢
  have HTS := hide hts
  clear hpa hrow hf4 hK hts hWK HPO HN2 HN
  obtain ⟨n, hn⟩ : ∃ n, n = ts.length := ⟨_, rfl⟩
  rw [← hn]
  have HNL := hide hn
  clear hn
  go_wp2_with fail
  refine (fxl_at _).mono ?_
  rintro ee w5 ⟨rfl, hf5⟩
  obtain ⟨w6, hw6⟩ : ∃ w6, w6 = (w5.alloc (.cells Tryz.zeroCells105 105)).setRow w5.heap.size (uvs fxl) := ⟨_, rfl⟩
  have hb5 := alloc_at w5 (.cells Tryz.zeroCells105 105)
  have hb6 : w6.heap[w5.heap.size]? = some (.cells (uvs fxl) 105 (0, 0)) := by rw [hw6]; exact setRow_heap _ _ _ _ _ _ hb5
  have hf6 : Fr No w5 w6 := by
    have f := (Fr.refl No w5).alloc (.cells Tryz.zeroCells105 105)
    rw [hw6]
    refine ⟨f.os, f.tape, f.output, by rw [size_setRow]; exact f.size, fun k hk _ => ?_⟩
    rw [setRow_other _ _ _ _ (by omega)]; exact f.block k hk (no_no _)
  have HW6 := hide hw6
  have HB5 := hide hb5
  have HB6 := hide hb6
  have HF46 := hide (hf5.trans hf6)
  have hlw : w4.heap.size ≤ w5.heap.size := hf5.size
  clear hw6 hb5 hb6 hf5 hf6
  go_wp2_with (refine wpList_store_row rfl 105 (.tmp 7) (.tmp 20) rfl w5.heap.size (uvs fxl) rfl rfl 105 Tryz.zeroCells105 (by exact HB5.out) (by rw [uvs_size, fxl_len]; kernel_rfl) (by rw [uvs_size, fxl_len]; kernel_rfl) (by simp [uvs, uv, Value.oneCell']) ?_)
  rw [← HW6.out]
  obtain ⟨lb, hlb⟩ : ∃ lb, lb = w5.heap.size := ⟨_, rfl⟩
  rw [← hlb] at HB6 ⊢
  clear hlb HB5 HW6
  have HF6 := hide (HF4.out.trans HF46.out)
  have HSY := hide (wsymbols_any wb wb lb cap ao K b3 ts fxl w6 dv3 (HWR4.out.no HF46.out) (HE.out.fr HF6.out (fun _ _ => no_no _)) HGB.out (bys_of HB6.out) fxl_lens fxl_len (HPA.out.fr HF46.out (fun _ _ => no_no _)) HOK.out (by have := HTN.out; omega))
  rw [← HNL.out] at HSY
  refine HSY.out.mono ?_
  rintro ee w7 ⟨rfl, hf7, dv7, hW7⟩
  have HF7 := hide (fr_own HF6.out hf7 (Nat.le_of_eq HWB.out.symm))
  have he : b3 ++ Pk.symsBits (fxl.take 288) (fxl.drop 288) ts = Pk.packed1 t.data.toList := by
    rw [HB3.out, HTS.out, fxl_a, fxl_b]
    unfold Pk.packed1
    simp only [List.nil_append, List.append_assoc]
  rw [he] at hW7
  have c0 := hW7.c0
  have hcv := wconv hW7
  clear hf7 hW7 he
  go_wp2_with fail
  go_ret
  exact ⟨rfl, HF7.out⟩
end Go.Proofs.YtjjjlilflbddoaaGreatDoor
/-
  A text packed by its own code.
-/
namespace Go.Proofs.YtjjjlilflbddoaaGreatDoor
open Go.RowKit Pm

theorem Wr.one {B wb q : Nat} {K bs : List Nat} {w w' : World} {dv : Value} (h : Wr B wb K bs w dv) (f : Fr (One q) w w') (hq : q ∈ K) : Wr B wb K bs w' dv :=
  ⟨f.at h.blk (one_ne (fun e => h.wbK (e ▸ hq))), ownsRow_fr h.row f (fun g hg => one_ne (fun e => (h.far g hg).2 (e ▸ hq))), h.far, h.bits, h.wbB, Nat.le_trans h.bsz f.size, h.wbK, fun k hk => Nat.lt_of_lt_of_le (h.klt k hk) f.size, h.len⟩
theorem fr_setRow {w : World} {g : Nat} (cs : Array Value) : Fr (One g) w (w.setRow g cs) := ⟨rfl, rfl, rfl, by rw [size_setRow]; exact Nat.le_refl _, fun k _ hs => setRow_other _ _ _ _ hs⟩
theorem lens_two {a b : List Nat} (ha : ∀ i, a.getD i 0 ≤ 15) (hb : ∀ i, b.getD i 0 ≤ 15) : Lens (a ++ b) := fun i _ => by
  by_cases h : i < a.length
  · have e : (a ++ b).getD i 0 = a.getD i 0 := by rw [List.getD, List.getD, List.getElem?_append_left h]
    rw [e]; exact ha i
  · have e : (a ++ b).getD i 0 = b.getD (i - a.length) 0 := by rw [List.getD, List.getD, List.getElem?_append_right (by omega)]
    rw [e]; exact hb _
/-- What Pack comes to, kind 2. -/
def Pack2P (d : List UInt8) (w : World) (e : Ending) (w' : World) : Prop := ∃ ls lf tl, Bst (Pk.symC (Pk.toks d)) 15 ls ∧ Bst (Pk.farC (Pk.toks d)) 15 lf ∧ Bst (Pk.telC (Pk.tells (Pk.allOf ls lf))) 7 tl ∧ PackP (Pk.packed2 d ls lf tl) w e w'

set_option maxRecDepth 100000 in
set_option maxHeartbeats 6400000 in
theorem pack2_any (t : ByteArray) (w : World) (ht : t.size ≤ 1500) (hE : PkEnv w) : Calls Tryz.prog 33 #[.string t, .int .i64 2] w (Pack2P t.data.toList w) := by
  have htl : t.data.toList.length = t.size := by simp
  have HTL := hide htl
  have hW1 := wr_nil w
  obtain ⟨w1, hw1⟩ : ∃ w1, w1 = w.alloc (.cells #[.slice none 0 0, .int .i64 0] 99) := ⟨_, rfl⟩
  have HF1 : Hid (Fr No w w1) := by rw [hw1]; exact (Fr.refl _ _).alloc _
  rw [← hw1] at hW1
  obtain ⟨wb, hwb⟩ : ∃ wb, wb = w.heap.size := ⟨_, rfl⟩
  rw [← hwb] at hW1
  have HN := hide (wnumber_any wb wb [] [] 1 1 w1 _ hW1 (by omega) (by decide))
  have HW1 := hide hw1
  have HWB := hide hwb
  have HE := hide hE
  have hG : 11 ≤ wb := by rw [hwb]; exact hE.size
  have HGB := hide hG
  clear hw1 hwb hW1 hE htl hG
  go_enter Tryz.func33, Tryz.ntmps33
  go_wp2_with fail
  rw [← HW1.out, ← HWB.out]
  refine HN.out.mono ?_
  rintro ee w2 ⟨rfl, hf2, dv2, hW2⟩
  have HF2 := hide (fr_own HF1.out hf2 (Nat.le_of_eq HWB.out.symm))
  have HN2 := hide (wnumber_any wb wb [] _ 2 2 w2 _ hW2 (by omega) (by decide))
  clear hf2 hW2
  go_wp2_with fail
  refine HN2.out.mono ?_
  rintro ee w3 ⟨rfl, hf3, dv3, hW3⟩
  have HF3 := hide (fr_own HF2.out hf3 (Nat.le_of_eq HWB.out.symm))
  obtain ⟨b3, hb3⟩ : ∃ b3, b3 = [] ++ Pk.numBits 1 1 ++ Pk.numBits 2 2 := ⟨_, rfl⟩
  rw [← hb3] at hW3
  have hb3l : b3.length = 3 := by rw [hb3]; rfl
  have HWR3 := hide hW3
  have HB3 := hide hb3
  have HPO := hide (partsOf_any t w3 ht)
  clear hf3 hW3 hb3
  go_wp2_with fail
  refine HPO.out.mono ?_
  rintro ee w4 ⟨pv, rfl, hrow, hf4⟩
  obtain ⟨ao, cap, K, rfl, hpa, hK⟩ := parts_of hrow
  have HPA := hide hpa
  have hWK := HWR3.out.more hf4 hK
  rw [List.append_nil] at hWK
  have HWR4 := hide hWK
  have HF4 := hide (HF3.out.trans hf4)
  have HOK := hide (toks_okT t.data.toList (by rw [HTL.out]; exact ht))
  have HTN : Hid ((Pk.toks t.data.toList).length ≤ 1500) := by have := Pk.toks_len t.data.toList; have := HTL.out; unfold Hid; omega
  obtain ⟨ts, hts⟩ : ∃ ts, ts = Pk.toks t.data.toList := ⟨_, rfl⟩
  rw [← hts] at HPA HOK HTN ⊢
  have HTS := hide hts
  have HKK := hide hK
  clear hpa hrow hf4 hK hts hWK HPO HN2 HN
  obtain ⟨n, hn⟩ : ∃ n, n = ts.length := ⟨_, rfl⟩
  rw [← hn]
  have HNL := hide hn
  clear hn
  go_wp2_with fail
  refine (fxl_at _).mono ?_
  rintro ee w5 ⟨rfl, hf5⟩
  obtain ⟨w6, hw6⟩ : ∃ w6, w6 = (w5.alloc (.cells Tryz.zeroCells105 105)).setRow w5.heap.size (uvs fxl) := ⟨_, rfl⟩
  have hb5 := alloc_at w5 (.cells Tryz.zeroCells105 105)
  have hb6 : w6.heap[w5.heap.size]? = some (.cells (uvs fxl) 105 (0, 0)) := by rw [hw6]; exact setRow_heap _ _ _ _ _ _ hb5
  have hf6 : Fr No w5 w6 := by
    have f := (Fr.refl No w5).alloc (.cells Tryz.zeroCells105 105)
    rw [hw6]
    refine ⟨f.os, f.tape, f.output, by rw [size_setRow]; exact f.size, fun k hk _ => ?_⟩
    rw [setRow_other _ _ _ _ (by omega)]; exact f.block k hk (no_no _)
  have HW6 := hide hw6
  have HB5 := hide hb5
  have HB6 := hide hb6
  have HF46 := hide (hf5.trans hf6)
  have hlw : w4.heap.size ≤ w5.heap.size := hf5.size
  clear hw6 hb5 hb6 hf5 hf6
  have hWn := HWR4.out.more (L := [w5.heap.size]) HF46.out (fun k hk => by rw [List.mem_singleton] at hk; subst hk; exact ⟨hlw, lt_of HB6.out⟩)
  have HWR6 := hide hWn
  clear hWn
  go_wp2_with (refine wpList_store_row rfl 105 (.tmp 7) (.tmp 20) rfl w5.heap.size (uvs fxl) rfl rfl 105 Tryz.zeroCells105 (by exact HB5.out) (by rw [uvs_size, fxl_len]; kernel_rfl) (by rw [uvs_size, fxl_len]; kernel_rfl) (by simp [uvs, uv, Value.oneCell']) ?_)
  rw [← HW6.out]
  obtain ⟨lb, hlb⟩ : ∃ lb, lb = w5.heap.size := ⟨_, rfl⟩
  rw [← hlb] at HB6 HWR6 hlw ⊢
  clear hlb HB5 HW6
  have HF6 := hide (HF4.out.trans HF46.out)
  have HPA6 := hide (HPA.out.fr HF46.out (fun _ _ => no_no _))
  have HE6 := hide (HE.out.fr HF6.out (fun _ _ => no_no _))
  have HLF := hide (lengthsFor_any K ao cap ts w6 HPA6.out HOK.out HE6.out HTN.out)
  rw [← HNL.out] at HLF
  refine HLF.out.mono ?_
  rintro ee w7 ⟨la, lc, hba, hbc, rfl, hf7⟩
  have hl1 : la.length = 288 := by rw [hba.len]; simp [Pk.symC]
  have hl2 : lc.length = 32 := by rw [hbc.len]; simp [Pk.farC]
  obtain ⟨l, hl⟩ : ∃ l, l = la ++ lc := ⟨_, rfl⟩
  rw [← hl]
  have hl8 : l.length = 320 := by rw [hl, List.length_append, hl1, hl2]
  have hta : l.take 288 = la := by rw [hl, List.take_append_of_le_length (by omega), List.take_of_length_le (by omega)]
  have htb : l.drop 288 = lc := by rw [hl, List.drop_append_of_le_length (by omega), List.drop_of_length_le (by omega), List.nil_append]
  have HLN : Hid (Lens l) := by rw [hl]; exact lens_two (fun i => hba.le i) (fun i => hbc.le i)
  have HTA := hide hta
  have HTB := hide htb
  have HBA := hide hba
  have HBC := hide hbc
  have HB7 := hide (hf7.at HB6.out (no_no _))
  have HWR7 := hide (HWR6.out.no hf7)
  have HF7 := hide (HF6.out.trans hf7)
  have HE7 := hide (HE6.out.fr hf7 (fun _ _ => no_no _))
  have HPA7 := hide (HPA6.out.fr hf7 (fun _ _ => no_no _))
  obtain ⟨w8, hw8⟩ : ∃ w8, w8 = w7.setRow lb (uvs l) := ⟨_, rfl⟩
  have hb8 : w8.heap[lb]? = some (.cells (uvs l) 105 (0, 0)) := by rw [hw8]; exact setRow_heap _ _ _ _ _ _ HB7.out
  have hf8 : Fr (One lb) w7 w8 := by rw [hw8]; exact fr_setRow _
  have HW8 := hide hw8
  have HB8 := hide hb8
  have HWR8 := hide (HWR7.out.one hf8 (List.mem_append.2 (.inl (List.mem_singleton.2 rfl))))
  have hwl : w.heap.size ≤ lb := Nat.le_trans HF4.out.size hlw
  have HF8 := hide (HF7.out.new hf8 hwl)
  have HE8 := hide (HE7.out.fr hf8 (fun k hk => one_ne (by have := HE.out.size; omega)))
  have HPA8 := hide ((HPA7.out.fr hf8 (fun k hk => one_ne (by have := (HKK.out k hk).2; omega))).more (L := [lb]))
  clear hw8 hb8 hf8 hf7 hba hbc hta htb hl hl1 hl2 HLF
  go_wp2_with (refine wpList_store_row rfl 105 (.tmp 7) (.tmp 24) rfl lb (uvs l) rfl rfl 105 (uvs fxl) (by exact HB7.out) (by rw [uvs_size, hl8]; kernel_rfl) (by rw [uvs_size, uvs_size, hl8, fxl_len]) (by simp [uvs, uv, Value.oneCell']) ?_)
  rw [← HW8.out]
  have hns : 257 ≤ Pk.nsy (l.take 288) := by
    rw [HTA.out]
    have h1 := (Pk.upTo_le la 288).2.2 256 (by omega) (by have := (Pk.suf_of (d := t.data.toList) (HTS.out ▸ HBA.out) (HTS.out ▸ HBC.out)).en; omega)
    unfold Pk.nsy
    omega
  have hnd : Pk.nds (l.drop 288) ≤ 32 := by
    have h1 := (Pk.upTo_le (l.drop 288) 32).1
    unfold Pk.nds
    omega
  have HCO := hide (wcodes_any wb wb lb ([lb] ++ K) b3 l w8 dv3 HWR8.out HE8.out HGB.out (bys_of HB8.out) HLN.out hl8 hns hnd (by omega))
  clear hns hnd
  refine HCO.out.mono ?_
  rintro ee w9 ⟨tl, hbt, rfl, hf9, dv9, hW9⟩
  rw [HTA.out, HTB.out] at hbt hW9
  have HHD := hide (Pk.head_of (d := t.data.toList) (HTS.out ▸ HBA.out) (HTS.out ▸ HBC.out) hbt)
  have HBT := hide hbt
  have hhs := Pk.head_size HHD.out
  obtain ⟨b9, hb9⟩ : ∃ b9, b9 = b3 ++ Pk.headBits la lc tl := ⟨_, rfl⟩
  rw [← hb9] at hW9
  have hb9l : b9.length ≤ 7200 := by rw [hb9, List.length_append]; omega
  have HB9 := hide hb9
  have HF9 := hide (fr_own HF8.out hf9 (Nat.le_of_eq HWB.out.symm))
  have hWB := HWB.out
  have HE9 := HE8.out.fr hf9 (fun k hk => own_low (by have := HGB.out; omega))
  have HSY := hide (wsymbols_any wb wb lb cap ao ([lb] ++ K) b9 ts l w9 dv9 hW9 HE9 HGB.out ((bys_of HB8.out).fr hf9 (own_not (List.mem_append.2 (.inl (List.mem_singleton.2 rfl))))) HLN.out hl8 (HPA8.out.fr hf9 (fun k hk => own_not hk)) HOK.out (by have := HTN.out; omega))
  rw [← HNL.out] at HSY
  clear hWB HE9 hb9 hhs hbt hf9 hW9 HCO
  go_wp2_with fail
  refine HSY.out.mono ?_
  rintro ee wz ⟨rfl, hfz, dvz, hWz⟩
  have HFZ := hide (fr_own HF9.out hfz (Nat.le_of_eq HWB.out.symm))
  have he : b9 ++ Pk.symsBits (l.take 288) (l.drop 288) ts = Pk.packed2 t.data.toList la lc tl := by
    rw [HB9.out, HB3.out, HTA.out, HTB.out, HTS.out]
    unfold Pk.packed2
    simp only [List.nil_append, List.append_assoc]
  rw [he] at hWz
  have c0 := hWz.c0
  have hcv := wconv hWz
  clear hfz hWz he
  go_wp2_with fail
  go_ret
  exact ⟨la, lc, tl, HTS.out ▸ HBA.out, HTS.out ▸ HBC.out, HBT.out, rfl, HFZ.out⟩
end Go.Proofs.YtjjjlilflbddoaaGreatDoor
/-
  Deflate.
-/
namespace Go.Proofs.YtjjjlilflbddoaaGreatDoor
open Go.RowKit Pm

set_option maxRecDepth 100000 in
set_option maxHeartbeats 1600000 in
theorem isKind_yes (k : Int) (w : World) (h1 : 0 ≤ k) (h2 : k ≤ 2) : Calls Tryz.prog 32 #[.int .i64 k] w fun e w' => e = .returned (.bool true) ∧ w' = w := by
  have g1 : k ≥ 0 := h1
  go_enter Tryz.func32, Tryz.ntmps32
  go_wp2_with fail
  go_ret
  exact ⟨rfl, rfl⟩
set_option maxRecDepth 100000 in
set_option maxHeartbeats 1600000 in
theorem isKind_no (k : Int) (w : World) (h : k < 0 ∨ 2 < k) : Calls Tryz.prog 32 #[.int .i64 k] w fun e w' => e = .returned (.bool false) ∧ w' = w := by
  by_cases h1 : 0 ≤ k
  · have g1 : k ≥ 0 := h1
    have h2 : ¬ k ≤ 2 := by omega
    clear h
    go_enter Tryz.func32, Tryz.ntmps32
    go_wp2_with fail
    go_ret
    exact ⟨rfl, rfl⟩
  · have g1 : ¬ k ≥ 0 := h1
    clear h
    go_enter Tryz.func32, Tryz.ntmps32
    go_wp2_with fail
    go_ret
    exact ⟨rfl, rfl⟩
/-- What Deflate answers. -/
def dfl (s : List UInt8) (e : Int) : Value := .tuple #[.string ⟨s.toArray⟩, .int .i64 e]

set_option maxRecDepth 100000 in
set_option maxHeartbeats 1600000 in
theorem deflate_bad (t : ByteArray) (k : Int) (w : World) (h : k < 0 ∨ 2 < k) : Calls Tryz.prog 13 #[.string t, .int .i64 k] w fun e w' => e = .returned (dfl [] 11) ∧ w' = w := by
  have HK := hide (isKind_no k w h)
  clear h
  go_enter Tryz.func13, Tryz.ntmps13
  go_wp2_with fail
  refine HK.out.mono ?_
  rintro ee W1 ⟨rfl, hW1⟩
  have hW1 := hW1.symm
  subst hW1
  go_wp2_with fail
  go_ret2
  exact ⟨rfl, rfl⟩
set_option maxRecDepth 100000 in
set_option maxHeartbeats 1600000 in
theorem deflate_long (t : ByteArray) (k : Int) (w : World) (h1 : 0 ≤ k) (h2 : k ≤ 2) (ht : 1500 < t.size) : Calls Tryz.prog 13 #[.string t, .int .i64 k] w fun e w' => e = .returned (dfl [] 1) ∧ w' = w := by
  have HK := hide (isKind_yes k w h1 h2)
  have hti : (1500 : Int) < (t.size : Int) := by omega
  clear h1 h2 ht
  go_enter Tryz.func13, Tryz.ntmps13
  go_wp2_with fail
  refine HK.out.mono ?_
  rintro ee W1 ⟨rfl, hW1⟩
  have hW1 := hW1.symm
  subst hW1
  go_wp2_with fail
  go_ret2
  exact ⟨rfl, rfl⟩
/-- Deflate is Pack. -/
def DefP (P : Ending → World → Prop) (e : Ending) (w' : World) : Prop := ∃ s, e = .returned (dfl s 0) ∧ P (.returned (.string ⟨s.toArray⟩)) w'
set_option maxRecDepth 100000 in
set_option maxHeartbeats 1600000 in
theorem deflate_pack (t : ByteArray) (k : Int) (w : World) (h1 : 0 ≤ k) (h2 : k ≤ 2) (ht : t.size ≤ 1500) (P : Ending → World → Prop) (hP : ∀ e w', P e w' → ∃ s : List UInt8, e = .returned (.string ⟨s.toArray⟩)) (h : Calls Tryz.prog 33 #[.string t, .int .i64 k] w P) : Calls Tryz.prog 13 #[.string t, .int .i64 k] w (DefP P) := by
  have HK := hide (isKind_yes k w h1 h2)
  have HP := hide hP
  have H := hide h
  have hti : ¬ (1500 : Int) < (t.size : Int) := by omega
  clear h1 h2 ht h hP
  go_enter Tryz.func13, Tryz.ntmps13
  go_wp2_with fail
  refine HK.out.mono ?_
  rintro ee W1 ⟨rfl, hW1⟩
  have hW1 := hW1.symm
  subst hW1
  go_wp2_with fail
  refine H.out.mono ?_
  intro ee w1 hp
  obtain ⟨s, rfl⟩ := HP.out _ _ hp
  have HPP := hide hp
  clear hp
  go_wp2_with fail
  go_ret2
  exact ⟨s, rfl, HPP.out⟩
/-- What Deflate answers where it does not refuse: bits that the kind says. -/
def PackOf (k : Nat) (d : List UInt8) (bs : List Nat) : Prop :=
  (k = 0 ∧ bs = Pk.packed0 d) ∨ (k = 1 ∧ bs = Pk.packed1 d) ∨ (k = 2 ∧ ∃ ls lf tl, Bst (Pk.symC (Pk.toks d)) 15 ls ∧ Bst (Pk.farC (Pk.toks d)) 15 lf ∧ Bst (Pk.telC (Pk.tells (Pk.allOf ls lf))) 7 tl ∧ bs = Pk.packed2 d ls lf tl)
theorem deflate_any (t : ByteArray) (k : Nat) (w : World) (hk : k ≤ 2) (ht : t.size ≤ 1500) (hE : PkEnv w) : Calls Tryz.prog 13 #[.string t, .int .i64 k] w fun e w' => ∃ bs, PackOf k t.data.toList bs ∧ e = .returned (dfl (Pk.toBytes bs) 0) ∧ Fr No w w' := by
  rcases (by omega : k = 0 ∨ k = 1 ∨ k = 2) with rfl | rfl | rfl
  · refine (deflate_pack t _ w (by omega) (by omega) ht _ (fun e w' h => ⟨_, h.1⟩) (pack0_any t w ht)).mono ?_
    rintro e w' ⟨s, rfl, h1, h2⟩
    refine ⟨_, Or.inl ⟨rfl, rfl⟩, ?_, h2⟩
    injection h1 with h1
    injection h1 with h1
    injection h1 with h1
    unfold dfl
    rw [h1]
  · refine (deflate_pack t _ w (by omega) (by omega) ht _ (fun e w' h => ⟨_, h.1⟩) (pack1_any t w ht hE)).mono ?_
    rintro e w' ⟨s, rfl, h1, h2⟩
    refine ⟨_, Or.inr (Or.inl ⟨rfl, rfl⟩), ?_, h2⟩
    injection h1 with h1
    injection h1 with h1
    injection h1 with h1
    unfold dfl
    rw [h1]
  · refine (deflate_pack t _ w (by omega) (by omega) ht _ (fun e w' h => by obtain ⟨_, _, _, _, _, _, h, _⟩ := h; exact ⟨_, h⟩) (pack2_any t w ht hE)).mono ?_
    rintro e w' ⟨s, rfl, ls, lf, tl, b1, b2, b3, h1, h2⟩
    refine ⟨_, Or.inr (Or.inr ⟨rfl, ls, lf, tl, b1, b2, b3, rfl⟩), ?_, h2⟩
    injection h1 with h1
    injection h1 with h1
    injection h1 with h1
    unfold dfl
    rw [h1]
end Go.Proofs.YtjjjlilflbddoaaGreatDoor
