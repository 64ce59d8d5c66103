import Derived.Test.YtjjjlilflbddoaaDoorPtL
import Derived.Test.YtjjjlilflbddoaaDoorGRtA
import Derived.Test.YtjjjlilflbddoaaDoorRLens
import Derived.Test.YtjjjlilflbddoaaDoorGRtD
/-
  The document's own counts.
-/
namespace Go.Proofs.YtjjjlilflbddoaaDoor
open Go.RowKit Pm

theorem made_zeros (n : Nat) : madeCells #[.int .i64 0] n = ivs (cntL n []) := by
  rw [cntL_nil]
  exact made_zero n
theorem ToksAt.fr2 {w w' : World} {ao : Option Addr} {ts : List (Nat × Nat)} (h : ToksAt w ao ts) (f : Fr No w w') : ToksAt w' ao ts := fun k hk => by
  obtain ⟨g, e, hg, h0, h1⟩ := h k hk
  exact ⟨g, e, Nat.lt_of_lt_of_le hg f.size, (f.cell (p := ⟨g, _, none⟩) hg (no_no _)).trans h0, (f.cell (p := ⟨g, _, none⟩) hg (no_no _)).trans h1⟩
/-- What Counts comes to. -/
def CountsP (ts : List (Nat × Nat)) (w : World) (e : Ending) (w' : World) : Prop := ∃ sb db, e = .returned (.tuple #[.slice (some ⟨sb, 0, none⟩) 286 286, .slice (some ⟨db, 0, none⟩) 30 30]) ∧ w'.heap[sb]? = some (.cells (ivs (cntL 286 (symY ts))) 3 (0, 0)) ∧ w'.heap[db]? = some (.cells (ivs (cntL 30 (farY ts))) 3 (0, 0)) ∧ Fr No w w'

set_option maxRecDepth 100000 in
set_option maxHeartbeats 6400000 in
theorem rcounts_any (ao : Option Addr) (cap : Nat) (ts : List (Nat × Nat)) (w : World) (hp : ToksAt w ao ts) (hok : ∀ t ∈ ts, TokOk t) (hn : ts.length ≤ 1500) :
    Calls Tryd.prog 27 #[.slice ao ts.length cap] w (CountsP ts w) := by
  have HP := hide hp
  have HOK := hide hok
  have HLS := hide (fun n w => rlenSym_any n w)
  have HFS := hide (fun n w => rfarSym_any n w)
  obtain ⟨n, hne⟩ : ∃ n, n = ts.length := ⟨_, rfl⟩
  rw [← hne] at hn ⊢
  have HNE := hide hne
  clear hp hok hne
  have hmk : ∀ w : World, (Instr.makeSlice 30 (.int .i64 286) (.int .i64 286)).run Tryd.prog w = .ok (.slice (some ⟨w.heap.size, 0, none⟩) 286 286) (w.alloc (.cells (ivs (cntL 286 [])) 3)) := fun w => by
    have := run_make_row' (P := Tryd.prog) 30 3 (.int .i64 0) 8 Tryd.underlying30 rinfo3 rfl .i64 .i64 286 (by decide) (by decide) w
    rw [made_zeros] at this
    exact this
  have hmk2 : ∀ w : World, (Instr.makeSlice 30 (.int .i64 30) (.int .i64 30)).run Tryd.prog w = .ok (.slice (some ⟨w.heap.size, 0, none⟩) 30 30) (w.alloc (.cells (ivs (cntL 30 [])) 3)) := fun w => by
    have := run_make_row' (P := Tryd.prog) 30 3 (.int .i64 0) 8 Tryd.underlying30 rinfo3 rfl .i64 .i64 30 (by decide) (by decide) w
    rw [made_zeros] at this
    exact this
  have hset0 : (ivs (cntL 286 [])).setIfInBounds 256 (.int .i64 1) = ivs (cntL 286 (symY [])) := by
    have h2 : (ivs (cntL 286 [])).setIfInBounds 256 (.int .i64 1) = ivs ((cntL 286 []).set 256 1) := ivs_set (x := 1)
    rw [h2]
    exact congrArg ivs (cntL_set 286 [] 256 (by decide))
  obtain ⟨Z0, hZ0⟩ : ∃ Z0, Z0 = ivs (cntL 286 []) := ⟨_, rfl⟩
  obtain ⟨F0, hF0⟩ : ∃ F0, F0 = ivs (cntL 30 []) := ⟨_, rfl⟩
  rw [← hZ0] at hmk hset0
  rw [← hF0] at hmk2
  obtain ⟨w2, hw2⟩ : ∃ w2, w2 = (w.alloc (.cells (Z0.setIfInBounds 256 (.int .i64 1)) 3)).alloc (.cells F0 3) := ⟨_, rfl⟩
  have HF1 : Hid (Fr No w w2) := by rw [hw2]; exact ((Fr.refl _ _).alloc _).alloc _
  have HB1 : Hid (w2.heap[w.heap.size]? = some (.cells (ivs (cntL 286 (symY []))) 3 (0, 0))) := by rw [← hset0, hw2]; exact alloc_old (alloc_at w _)
  have HB2 : Hid (w2.heap[w.heap.size + 1]? = some (.cells (ivs (cntL 30 (farY []))) 3 (0, 0))) := by rw [hw2, hF0]; exact alloc2_at w _ _
  have hz1 : ((w.alloc (.cells Z0 3)).alloc (.cells F0 3)).heap[w.heap.size]? = some (.cells Z0 3 (0, 0)) := alloc_old (alloc_at w _)
  have hc256 : ((w.alloc (.cells Z0 3)).alloc (.cells F0 3)).cell? ⟨w.heap.size, 256, none⟩ = some (.int .i64 0) := by rw [cell_of hz1, hZ0, ivs_get (by rw [cntL_len]; decide), cntL_get 286 [] 256 (by decide)]; rfl
  have hfz := frozen_of hz1 256
  have HW2 := hide hw2
  clear hset0 hZ0 hF0 hw2 hz1
  go_enter Tryd.func27, Tryd.ntmps27
  go_wp2_with fail
  rw [← HW2.out]
  obtain ⟨sb, hsb⟩ : ∃ sb, sb = w.heap.size := ⟨_, rfl⟩
  obtain ⟨db, hdb⟩ : ∃ db, db = w.heap.size + 1 := ⟨_, rfl⟩
  rw [← hdb] at HB2 ⊢
  rw [← hsb] at HB1 ⊢
  have hsbw : ¬ sb < w.heap.size := by omega
  have hdbw : ¬ db < w.heap.size := by omega
  have hsd : sb ≠ db := by omega
  clear hsb hdb hc256 hfz hmk hmk2 HW2
  go_loopw [6] (fun kv wr => ∃ k : Nat, k ≤ n ∧ kv = .int .i64 k ∧ Hid (wr.heap[sb]? = some (.cells (ivs (cntL 286 (symY (ts.take k)))) 3 (0, 0))) ∧ Hid (wr.heap[db]? = some (.cells (ivs (cntL 30 (farY (ts.take k)))) 3 (0, 0))) ∧ Hid (Fr No w wr)) (fun kv _ => n - (intOf kv).toNat)
  case atStart => exact ⟨0, Nat.zero_le _, rfl, HB1.out, HB2.out, HF1.out⟩
  case round =>
    obtain ⟨k, hk, rfl, HS, HD, HF⟩ := hrel
    by_cases hlt : k < n
    · have hki : (k : Int) < (n : Int) := by omega
      have hkt : k < ts.length := by have := HNE.out; omega
      obtain ⟨g, e, hg, x0, x1⟩ := (HP.out.fr2 HF.out) k hkt
      subst e
      have htm : ts.getD k (0, 0) ∈ ts := by rw [List.getD, List.getElem?_eq_getElem hkt]; exact List.getElem_mem _
      have htok := HOK.out _ htm
      have HSS := hide (symY_snoc ts k hkt)
      have HFF := hide (farY_snoc ts k hkt)
      have hsl := symY_len (ts.take k)
      have hfl := farY_len (ts.take k)
      rw [List.length_take] at hsl hfl
      obtain ⟨t, ht⟩ : ∃ t, t = ts.getD k (0, 0) := ⟨_, rfl⟩
      rw [← ht] at x0 x1 htok HSS HFF
      have hsym286 := Pk.symOf_lt (t := t) htok.1
      obtain ⟨Z, hZ⟩ : ∃ Z, Z = symY (ts.take k) := ⟨_, rfl⟩
      obtain ⟨F, hF⟩ : ∃ F, F = farY (ts.take k) := ⟨_, rfl⟩
      rw [← hZ] at HS HSS hsl
      rw [← hF] at HD HFF hfl
      have HSO : Hid (Pk.symOf t = if t.2 = 0 then t.1 else Pk.lenSym t.1) := rfl
      obtain ⟨sy, hsy⟩ : ∃ sy, sy = Pk.symOf t := ⟨_, rfl⟩
      rw [← hsy] at hsym286 HSS HSO
      have hcnt := cntL_get 286 Z sy (by omega)
      have hset := cntL_set 286 Z sy (by omega)
      have hle := count_len Z sy
      obtain ⟨cx, hcx⟩ : ∃ cx, cx = Z.count sy := ⟨_, rfl⟩
      rw [← hcx] at hcnt hset hle
      obtain ⟨cy, hcy⟩ : ∃ cy, cy = cx + 1 := ⟨_, rfl⟩
      have hcyi : (cx : Int) + 1 = (cy : Int) := by omega
      have wcy : IntKind.i64.wrap (cy : Int) = cy := wraps_i64 _ (by omega) (by omega)
      have hsyi : (sy : Int) < 286 := by omega
      have HSET : Hid (∀ W : World, W.heap[sb]? = some (.cells (ivs (cntL 286 Z)) 3 (0, 0)) → W.cell? ⟨sb, sy, none⟩ = some (.int .i64 (cx : Nat)) ∧ (W.setCell ⟨sb, sy, none⟩ (.int .i64 (cy : Nat))).heap[sb]? = some (.cells (ivs (cntL 286 (symY (ts.take (k + 1))))) 3 (0, 0))) := fun W hW => ⟨by rw [cell_of hW, ivs_get (by rw [cntL_len]; omega), hcnt], by rw [set_of hW, ivs_set, hcy, hset, HSS.out]⟩
      obtain ⟨t1, ht1⟩ : ∃ t1, t1 = t.1 := ⟨_, rfl⟩
      obtain ⟨t2, ht2⟩ : ∃ t2, t2 = t.2 := ⟨_, rfl⟩
      rw [← ht1] at x0 HSO
      rw [← ht2] at x1 HSO HFF
      clear hcx hcnt hset hle hcy hZ hF ht htm hsy hsl htok HSS ht1
      by_cases ht0 : t2 = 0
      · have hs1 : sy = t1 := by rw [HSO.out, if_pos ht0]
        subst hs1
        obtain ⟨hcell, hnew⟩ := HSET.out wr HS.out
        have hfz := frozen_of HS.out sy
        have HN := hide hnew
        have HD2 : Hid ((wr.setCell ⟨sb, sy, none⟩ (.int .i64 (cy : Nat))).heap[db]? = some (.cells (ivs (cntL 30 (farY (ts.take (k + 1))))) 3 (0, 0))) := by
          unfold Hid
          rw [HFF.out, if_pos ht0]
          exact (set_other sy _ (Ne.symm hsd)).trans HD.out
        have HF2 : Hid (Fr No w (wr.setCell ⟨sb, sy, none⟩ (.int .i64 (cy : Nat)))) := HF.out.setCell (p := ⟨sb, sy, none⟩) (fun h => absurd h hsbw) _
        subst ht0
        clear hnew ht2
        go_wp2_with fail
        refine ⟨⟨k + 1, by omega, by go_num, HN.out, HD2.out, HF2.out⟩, by simp [intOf]; omega⟩
      · have hs1 : sy = Pk.lenSym t1 := by rw [HSO.out, if_neg ht0]
        have h0i : ((t2 : Int) == 0) = false := by rw [beq_eq_false_iff_ne]; omega
        have HL1 := hide (HLS.out t1 wr)
        rw [← hs1] at HL1
        have hfl29 := Pk.farSym_le t2
        have HFX := hide (HFS.out t2)
        obtain ⟨fs, hfs⟩ : ∃ fs, fs = Pk.farSym t2 := ⟨_, rfl⟩
        rw [← hfs] at HFF
        rw [← hfs] at hfl29 HFX
        clear hs1 ht2 HSO hfs
        go_wp2_with fail
        refine HL1.out.mono ?_
        rintro ee w4 ⟨rfl, hf4⟩
        have x1 := (hf4.cell (p := ⟨g, k * 2 + 1, none⟩) hg (no_no _)).trans x1
        have x0 := (hf4.cell (p := ⟨g, k * 2, none⟩) hg (no_no _)).trans x0
        have hg4 : g < w4.heap.size := Nat.lt_of_lt_of_le hg hf4.size
        have HS4 := hide (hf4.at HS.out (no_no _))
        have HD4 := hide (hf4.at HD.out (no_no _))
        have HF4 := hide (HF.out.trans hf4)
        clear hf4 HL1
        go_wp2_with fail
        refine (HFX.out _).mono ?_
        rintro ee w5 ⟨rfl, hf5⟩
        have HS5 := hide (hf5.at HS4.out (no_no _))
        have HD5 := hide (hf5.at HD4.out (no_no _))
        have HF5 := hide (HF4.out.trans hf5)
        clear hf5 HS4 HD4 HF4 x0 x1
        obtain ⟨hcell, hnew⟩ := HSET.out w5 HS5.out
        have hfz := frozen_of HS5.out sy
        have HN := hide hnew
        have hD6 : (w5.setCell ⟨sb, sy, none⟩ (.int .i64 (cy : Nat))).heap[db]? = some (.cells (ivs (cntL 30 F)) 3 (0, 0)) := (set_other sy _ (Ne.symm hsd)).trans HD5.out
        have HF6 : Hid (Fr No w (w5.setCell ⟨sb, sy, none⟩ (.int .i64 (cy : Nat)))) := HF5.out.setCell (p := ⟨sb, sy, none⟩) (fun h => absurd h hsbw) _
        have hcnt := cntL_get 30 F fs (by omega)
        have hset := cntL_set 30 F fs (by omega)
        have hle := count_len F fs
        obtain ⟨fx, hfx⟩ : ∃ fx, fx = F.count fs := ⟨_, rfl⟩
        rw [← hfx] at hcnt hset hle
        have hcell2 : (w5.setCell ⟨sb, sy, none⟩ (.int .i64 (cy : Nat))).cell? ⟨db, fs, none⟩ = some (.int .i64 (fx : Nat)) := by rw [cell_of hD6, ivs_get (by rw [cntL_len]; omega), hcnt]
        have hfz2 := frozen_of hD6 fs
        obtain ⟨fy, hfy⟩ : ∃ fy, fy = fx + 1 := ⟨_, rfl⟩
        have hfyi : (fx : Int) + 1 = (fy : Int) := by omega
        have wfy : IntKind.i64.wrap (fy : Int) = fy := wraps_i64 _ (by omega) (by omega)
        have hfsi : (fs : Int) < 30 := by omega
        have HD7 : Hid (((w5.setCell ⟨sb, sy, none⟩ (.int .i64 (cy : Nat))).setCell ⟨db, fs, none⟩ (.int .i64 (fy : Nat))).heap[db]? = some (.cells (ivs (cntL 30 (farY (ts.take (k + 1))))) 3 (0, 0))) := by unfold Hid; rw [set_of hD6, ivs_set, hfy, hset, HFF.out, if_neg ht0]
        have HN7 : Hid (((w5.setCell ⟨sb, sy, none⟩ (.int .i64 (cy : Nat))).setCell ⟨db, fs, none⟩ (.int .i64 (fy : Nat))).heap[sb]? = some (.cells (ivs (cntL 286 (symY (ts.take (k + 1))))) 3 (0, 0))) := (set_other fs _ hsd).trans HN.out
        have HF7 : Hid (Fr No w ((w5.setCell ⟨sb, sy, none⟩ (.int .i64 (cy : Nat))).setCell ⟨db, fs, none⟩ (.int .i64 (fy : Nat)))) := HF6.out.setCell (p := ⟨db, fs, none⟩) (fun h => absurd h hdbw) _
        clear hcnt hset hle hfx hfy hnew hD6
        go_wp2_with fail
        refine ⟨⟨k + 1, by omega, by go_num, HN7.out, HD7.out, HF7.out⟩, by simp [intOf]; omega⟩
    · have hke : k = n := by omega
      subst hke
      have hki : ¬ (k : Int) < (k : Int) := by omega
      have htk : ts.take k = ts := List.take_of_length_le (by have := HNE.out; omega)
      rw [htk] at HS HD
      clear htk
      go_wp2_with fail
      go_ret2
      exact ⟨sb, db, rfl, HS.out, HD.out, HF.out⟩
end Go.Proofs.YtjjjlilflbddoaaDoor
