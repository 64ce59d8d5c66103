import Derived.Test.YtjjjlilflbddoaaDoorPtE
import Derived.Test.YtjjjlilflbddoaaDoorGPkO
import Derived.Test.YtjjjlilflbddoaaDoorGFix
/-
  What the rounds of package-merge keep within; counts of symbols taken.
-/
namespace Go.Proofs.YtjjjlilflbddoaaDoor
open Go.RowKit Pm

theorem mrg_map (es ps : List El) : (mrg es ps).map pr = mrg (es.map pr) (ps.map pr) := by
  unfold mrg
  exact List.map_merge (fun a _ b _ => rfl)
theorem syms_app (a b : List Bd) : syms (a ++ b) = syms a ++ syms b := by unfold syms; rw [List.flatMap_append]
theorem rows_bound (s : List Bd) : ∀ k, (rows s k).length ≤ 2 * s.length ∧ (syms (rows s k)).length ≤ k * (syms s).length
  | 0 => ⟨Nat.zero_le _, by simp [rows, syms]⟩
  | k + 1 => by
    obtain ⟨h1, h2⟩ := rows_bound s k
    refine ⟨by rw [rows_len]; omega, ?_⟩
    have h3 : (syms (rows s (k + 1))).length = (syms s).length + (syms (pairs (rows s k))).length := by
      have := ((mrg_perm s (pairs (rows s k))).flatMap_right Prod.snd).length_eq
      rw [List.flatMap_append, List.length_append] at this
      exact this
    have h4 : (syms (pairs (rows s k))).length ≤ (syms (rows s k)).length := by
      have e := pairs_syms (rows s k) ((rows s k).length / 2) (Nat.le_refl _)
      rw [List.take_of_length_le (by rw [pairs_len]; exact Nat.le_refl _)] at e
      rw [e]
      have e2 := syms_app ((rows s k).take (2 * ((rows s k).length / 2))) ((rows s k).drop (2 * ((rows s k).length / 2)))
      rw [List.take_append_drop] at e2
      rw [e2, List.length_append]
      omega
    rw [h3, Nat.add_mul]
    omega
theorem syms_one {l : List Bd} {b : Bd} (h : b ∈ l) : b.2.length ≤ (syms l).length := by
  obtain ⟨x, y, rfl⟩ := List.append_of_mem h
  rw [syms_app, List.length_append]
  show _ ≤ _ + (b.2 ++ syms y).length
  rw [List.length_append]
  omega
theorem sm_bound {f : Nat → Nat} {C : Nat} (hf : ∀ x, f x ≤ C) (l : List Nat) : sm l f ≤ l.length * C := by
  rw [← sm_const]
  exact sm_le (fun x _ => hf x)
/-- Bundles in the rows are small enough. -/
theorem row_small {c X : List Nat} (hX : X.length ≤ 400) (hc : ∀ i, cf c i ≤ 2000) {k : Nat} (hk : k ≤ 15) {b : Bd} (hb : b ∈ rows (sing (cf c) X) k) : b.1 ≤ 1000000000 ∧ b.2.length ≤ 50000 := by
  have h1 := (rows_bound (sing (cf c) X) k).2
  rw [syms_sing] at h1
  have h2 := syms_one hb
  have h3 := (ok_rows (cf c) X k b hb).1
  have h4 := sm_bound hc b.2
  have h5 : k * X.length ≤ 15 * 400 := Nat.mul_le_mul hk hX
  constructor <;> omega

/-- How often each symbol below N is among Y. -/
def cntL (N : Nat) (Y : List Nat) : List Nat := (List.range N).map fun x => Y.count x
theorem cntL_len (N : Nat) (Y : List Nat) : (cntL N Y).length = N := by simp [cntL]
theorem cntL_get (N : Nat) (Y : List Nat) (x : Nat) (h : x < N) : (cntL N Y).getD x 0 = Y.count x := by
  unfold cntL
  rw [List.getD, List.getElem?_map, List.getElem?_range h]
  rfl
theorem cntL_nil (N : Nat) : cntL N [] = List.replicate N 0 := by
  apply List.ext_getElem?
  intro i
  unfold cntL
  rw [List.getElem?_map, List.getElem?_replicate]
  by_cases h : i < N
  · rw [List.getElem?_range h, if_pos h]; rfl
  · rw [List.getElem?_eq_none (by simp; omega), if_neg h]; rfl
theorem cntL_set (N : Nat) (Y : List Nat) (x : Nat) (h : x < N) : (cntL N Y).set x (Y.count x + 1) = cntL N (Y ++ [x]) := by
  apply List.ext_getElem?
  intro i
  rw [List.getElem?_set, cntL_len]
  unfold cntL
  rw [List.getElem?_map, List.getElem?_map]
  by_cases e : x = i
  · subst e
    rw [if_pos rfl, if_pos h, List.getElem?_range h]
    simp
  · rw [if_neg e]
    by_cases hi : i < N
    · rw [List.getElem?_range hi]
      simp only [Option.map_some]
      rw [List.count_append, List.count_singleton]
      simp [e]
    · rw [List.getElem?_eq_none (by simp; omega)]; rfl
/-- The lengths as counts. -/
theorem cntL_one {c X : List Nat} {L : Nat} (h1 : X.length = 1) : cntL c.length X = lens c X L := by
  unfold cntL lens
  apply List.map_congr_left
  intro x _
  unfold Pm.lenOf
  rw [if_pos h1]
  obtain ⟨y, rfl⟩ := List.length_eq_one_iff.1 h1
  rw [List.count_singleton]
  by_cases e : y = x
  · subst e; simp
  · have e2 : ¬ x = y := fun h => e h.symm
    simp [e, e2]
theorem cntL_all {c X : List Nat} {L : Nat} (h1 : X.length ≠ 1) : cntL c.length (syms ((rows (sing (cf c) X) L).take (2 * X.length - 2))) = lens c X L := by
  unfold cntL lens
  apply List.map_congr_left
  intro x _
  unfold Pm.lenOf
  rw [if_neg h1]
theorem count_pre (Y Z : List Nat) (x : Nat) : Y.count x ≤ (Y ++ Z).count x := by rw [List.count_append]; omega
end Go.Proofs.YtjjjlilflbddoaaDoor
/-
  The best lengths.
-/
namespace Go.Proofs.YtjjjlilflbddoaaDoor
open Go.RowKit Pm

/-- What bestLengths comes to. -/
def BestP (c : List Nat) (L : Nat) (w : World) (e : Ending) (w' : World) : Prop := ∃ g X, w.heap.size ≤ g ∧ e = .returned (.slice (some ⟨g, 0, none⟩) c.length c.length) ∧ w'.heap[g]? = some (.cells (uvs (lens c X L)) 5 (0, 0)) ∧ X.Perm (cand c) ∧ Sd (sing (cf c) X) ∧ Fr No w w'
theorem made_bytes (n : Nat) : madeCells #[.int .u8 0] (n * 1) = uvs (cntL n []) := by
  rw [cntL_nil]
  apply Array.ext_getElem?
  intro k
  unfold madeCells
  rw [Array.getElem?_map, Array.getElem?_range]
  by_cases h : k < n
  · rw [if_pos (by omega), uvs_get (by simpa using h)]
    simp only [Option.map_some, List.size_toArray, List.length_singleton, Nat.mod_one]
    rw [List.getD, List.getElem?_replicate, if_pos h]
    rfl
  · rw [if_neg (by omega), Array.getElem?_eq_none (by rw [uvs_size]; simp; omega)]; rfl
/-- The symbols are below the number of counts. -/
theorem cand_lt {c : List Nat} {x : Nat} (h : x ∈ cand c) : x < c.length := List.mem_range.1 (List.mem_filter.1 h).1
theorem sd_of_pr {es : List El} (h : Sd (es.map pr)) : Sd es := (List.pairwise_map (f := pr) (R := fun a b => a.1 ≤ b.1)).1 h
/-- A row of bundles and its symbols as pure bundles. -/
theorem pr_len (es : List El) : (es.map pr).length = es.length := List.length_map _

theorem Fr.trans2b {w a b d : World} {g : Nat} (h : Fr No w a) (k : Fr No a b) (l : Fr (One g) b d) (hg : w.heap.size ≤ g) : Fr No w d := (h.trans k).new l hg
/-- The symbols of a bundle, read. -/
theorem sym_row {w : World} {B : Nat} {v : Value} {l : List Nat} (h : w.ownsRow B 3 1 v l.length (ivl l)) : ∃ ao cp, v = .slice ao l.length cp ∧ ∀ j, j < l.length → ∃ sb, ao = some ⟨sb, 0, none⟩ ∧ B ≤ sb ∧ sb < w.heap.size ∧ w.cell? ⟨sb, j, none⟩ = some (.int .i64 (l.getD j 0 : Nat)) := by
  rcases h.2 with ⟨e1, e2⟩ | ⟨g, cap, cur, e1, e2, e3, _, _, _, e4⟩
  · exact ⟨none, 0, by rw [e1, e2], fun j hj => by omega⟩
  · refine ⟨_, _, e1, fun j hj => ⟨g, rfl, e2, lt_of e3, ?_⟩⟩
    have e5 : (cur.toList.take (l.length * 1))[j]? = (ivl l)[j]? := by rw [e4]
    rw [List.getElem?_take_of_lt (by omega), Array.getElem?_toList] at e5
    rw [cell_of e3, e5]
    unfold ivl
    rw [List.getElem?_map, List.getElem?_eq_getElem hj, List.getD, List.getElem?_eq_getElem hj]
    rfl
theorem take_snoc (l : List Nat) (j : Nat) (h : j < l.length) : l.take (j + 1) = l.take j ++ [l.getD j 0] := by rw [List.take_add_one, List.getD, List.getElem?_eq_getElem h]; rfl
theorem syms_snoc (l : List Bd) (q : Nat) (h : q < l.length) : syms (l.take (q + 1)) = syms (l.take q) ++ (l.getD q (0, [])).2 := by
  rw [List.take_add_one, syms_app, List.getD, List.getElem?_eq_getElem h]
  simp [syms]

set_option maxRecDepth 100000 in
set_option maxHeartbeats 25600000 in
theorem best_any (b cap L : Nat) (c : List Nat) (w : World) (h : IntsAt w b c) (hn : c.length ≤ 400) (hc : ∀ i, cf c i ≤ 2000) (hL : 1 ≤ L) (hL2 : L ≤ 15) (hL3 : c.length ≤ 2 ^ L) :
    Calls Tryd.prog 86 #[.slice (some ⟨b, 0, none⟩) c.length cap, .int .i64 L] w (BestP c L w) := by
  obtain ⟨i0, hi, hz0, hz1, hz2⟩ := info_parts cinfoU
  have H := hide h
  have HC := hide hc
  have HL3 := hide hL3
  obtain ⟨N, hN⟩ : ∃ N, N = c.length := ⟨_, rfl⟩
  have hmk : ∀ w : World, (Instr.makeSlice 51 (.int .i64 (N : Nat)) (.int .i64 (N : Nat))).run Tryd.prog w = .ok (.slice (some ⟨w.heap.size, 0, none⟩) N N) (w.alloc (.cells (uvs (cntL N [])) 5)) := fun w => by
    have := run_makeSlice (P := Tryd.prog) w 51 5 i0 _ Tryd.underlying51 hi hz0 .i64 .i64 (N : Int) (N : Int) (by omega) (Int.le_refl _) (by rw [hz1]; omega) (by rw [hz2]; omega) (by omega)
    rw [this, hz1, Int.toNat_natCast]
    show Result.ok _ (w.alloc (.cells (madeCells #[.int .u8 0] (N * 1)) _)) = _
    rw [made_bytes]
  rw [← hN] at hn ⊢
  have HN := hide hN
  clear h hc hL3 hN hi hz0 hz1 hz2
  go_enter Tryd.func86, Tryd.ntmps86
  go_wp2_with fail
  obtain ⟨w1, hw1⟩ : ∃ w1, w1 = w.alloc (.cells (uvs (cntL N [])) 5) := ⟨_, rfl⟩
  rw [← hw1]
  obtain ⟨g, hg⟩ : ∃ g, g = w.heap.size := ⟨_, rfl⟩
  have hg1 : w1.heap[g]? = some (.cells (uvs (cntL N [])) 5 (0, 0)) := by rw [hw1, hg]; exact alloc_at w _
  have hf1 : Fr No w w1 := by rw [hw1]; exact (Fr.refl _ _).alloc _
  have hgl : g < w1.heap.size := lt_of hg1
  have HSI := hide (singles_any b cap c w1 (H.out.fr hf1 (no_no _)) (by have := HN.out; omega) (fun i => by have := HC.out i; omega))
  rw [← HN.out] at HSI
  rw [← hg]
  have HG := hide hg
  have HG1 := hide hg1
  have HF1 := hide hf1
  have hgw : ¬ g < w.heap.size := by omega
  clear hw1 hg hg1 hf1 hmk
  refine HSI.out.mono ?_
  rintro e w2 ⟨sv0, es, X, rfl, hb2, he2, hX2, hs2, hf2⟩
  obtain ⟨sa, sc, hsv⟩ := hb2.form
  subst hsv
  have hXl : X.length = es.length := by have := congrArg List.length he2; rw [pr_len, sing_len] at this; omega
  have hXN : X.length ≤ 400 := by have := hX2.length_eq; have := cand_len c; have := HN.out; omega
  obtain ⟨n, hne⟩ : ∃ n, n = es.length := ⟨_, rfl⟩
  have HG2 := hide (hf2.at HG1.out (no_no _))
  have HF2 := hide (HF1.out.trans hf2)
  have HB2 : Hid (Bn w2 w1.heap.size (.slice sa n sc) es) := by rw [hne]; exact hb2
  have HE2 := hide he2
  have HX2 := hide hX2
  have HS2 := hide hs2
  have HXL := hide (show X.length = n by omega)
  have hsz12 := hf2.size
  have hn4 : n ≤ 400 := by omega
  rw [← hne]
  have HNE := hide hne
  obtain ⟨B, hB⟩ : ∃ B, B = w1.heap.size := ⟨_, rfl⟩
  rw [← hB] at HB2 hsz12 hgl
  have HBw := hide hB
  clear hb2 he2 hX2 hs2 hf2 hXl hXN hne hB HSI HG1 HF1
  have hl1i : (L : Int) - 1 = ((L - 1 : Nat) : Int) := by omega
  obtain ⟨l1, hl1⟩ : ∃ l1, l1 = L - 1 := ⟨_, rfl⟩
  have hl1j : (L : Int) - 1 = (l1 : Int) := by omega
  have wl1 : IntKind.i64.wrap (l1 : Int) = l1 := wraps_i64 _ (by omega) (by omega)
  have HL1 := hide hl1
  clear hl1 hl1i
  have hx2 := HX2.out
  by_cases hn1 : n = 1
  · obtain ⟨gs, x, sb, cp, hsa, hcs, hcx, hxN, hXx⟩ : ∃ gs x sb cp, sa = some ⟨gs, 0, none⟩ ∧ w2.cell? ⟨gs, 1, none⟩ = some (.slice (some ⟨sb, 0, none⟩) 1 cp) ∧ w2.cell? ⟨sb, 0, none⟩ = some (.int .i64 (x : Nat)) ∧ x < N ∧ X = [x] := by
      obtain ⟨x, hX⟩ := List.length_eq_one_iff.1 (show X.length = 1 by have := HXL.out; omega)
      obtain ⟨e0, he0⟩ := List.length_eq_one_iff.1 (show es.length = 1 by have := HNE.out; omega)
      have hpr : pr e0 = (cf c x, [x]) := by
        have := HE2.out
        rw [he0, hX] at this
        injection this
      have he3 : e0.2.2 = [x] := congrArg Prod.snd hpr
      rcases HB2.out.row.2 with ⟨q1, q2⟩ | ⟨gs, cp0, cur0, q1, _⟩
      · have := HNE.out; omega
      · have hrow := HB2.out.row
        injection q1 with q1 q2 q3
        subst q1
        rw [← HNE.out] at hrow
        obtain ⟨cur, r1, _⟩ := rw_of hrow HNE.out
        have c1 := r1.c1 (i := 0) (by have := HNE.out; omega)
        rw [he0] at c1
        have hsy := HB2.out.sym e0 (by rw [he0]; simp)
        rw [he3] at hsy
        obtain ⟨ao, cp, hv, hj⟩ := sym_row hsy
        obtain ⟨sb, h1, h2, h3, h4⟩ := hj 0 (by simp)
        subst h1
        refine ⟨gs, x, sb, cp, rfl, ?_, h4, ?_, hX⟩
        · have e1 : ([e0] : List El).getD 0 ed = e0 := rfl
          rw [e1, hv] at c1
          exact c1
        · have := cand_lt (HX2.out.mem_iff.1 (show x ∈ X by rw [hX]; simp))
          rw [HN.out]; exact this
    subst hsa
    have hcell : w2.cell? ⟨g, x, none⟩ = some (.int .u8 0) := by rw [cell_of HG2.out, uvs_get (by rw [cntL_len]; exact hxN), cntL_get N [] x hxN]; rfl
    have hfz := frozen_of HG2.out x
    have hxNi : (x : Int) < (N : Int) := by omega
    have hn1i : ((n : Int) == 1) = true := by simp; omega
    obtain ⟨w3, hw3⟩ : ∃ w3, w3 = w2.setCell ⟨g, x, none⟩ (.int .u8 1) := ⟨_, rfl⟩
    have hf23 : Fr (One g) w2 w3 := by rw [hw3]; exact (Fr.refl (One g) w2).setCell (p := ⟨g, x, none⟩) (fun _ => rfl) _
    obtain ⟨Y0, hY0⟩ : ∃ Y0, Y0 = X := ⟨_, rfl⟩
    have HG3 : Hid (w3.heap[g]? = some (.cells (uvs (cntL N Y0)) 5 (0, 0))) := by
      have h1 := cntL_set N [] x hxN
      unfold Hid
      rw [hw3, set_of HG2.out]
      have h2 : (uvs (cntL N [])).setIfInBounds x (.int .u8 1) = uvs ((cntL N []).set x 1) := uvs_set (x := 1)
      rw [h2, hY0, hXx]
      exact congrArg (fun l => some (Obj.cells (uvs l) 5 (0, 0))) h1
    have HB3 : Hid (Bn w3 B (.slice (some ⟨gs, 0, none⟩) n sc) es) := HB2.out.fr hf23 (fun k hk _ => one_ne (by omega))
    have HF3 : Hid (Fr No w w3 ∧ B ≤ w3.heap.size) := ⟨HF2.out.new hf23 (by have := HG.out; omega), Nat.le_trans hsz12 hf23.size⟩
    have HY0 : Hid ((n = 1 ∧ Y0 = X) ∨ (n ≠ 1 ∧ Y0 = [])) := .inl ⟨hn1, hY0⟩
    have HW3 := hide hw3
    have HN1 := hide hn1
    have HXX := hide hXx
    have hn0 : 0 < n := by omega
    clear hw3 hf23 hY0 hx2 hn1 hXx
    go_wp2_with fail
    rw [← HW3.out]
    obtain ⟨sa, hsa⟩ : ∃ sa : Option Addr, sa = some ⟨gs, 0, none⟩ := ⟨_, rfl⟩
    rw [← hsa] at HB3 ⊢
    clear hsa hcs hcx hcell hfz hn1i HB2 HG2 HF2 HW3
    go_loopw [7, 31] (fun rv iv wr => ∃ (i : Nat) (rs : List El), i ≤ l1 ∧ iv = .int .i64 i ∧ Hid (Bn wr B rv rs) ∧ Hid (rs.map pr = rows (sing (cf c) X) (i + 1)) ∧ Hid (wr.heap[g]? = some (.cells (uvs (cntL N Y0)) 5 (0, 0))) ∧ Hid (Bn wr B (.slice sa n sc) es) ∧ Hid (Fr No w wr ∧ B ≤ wr.heap.size)) (fun _ iv _ => l1 - (intOf iv).toNat)
    case atStart => exact ⟨0, es, Nat.zero_le _, rfl, HB3.out, by unfold Hid; rw [HE2.out, rows_one], HG3.out, HB3.out, HF3.out⟩
    case round =>
      obtain ⟨i, rs, hi, rfl, HBR, HER, HGR, HBS, HFR⟩ := hrel
      obtain ⟨ra, rc, hrv⟩ := HBR.out.form
      subst hrv
      have hrl : rs.length ≤ 800 := by
        have h1 := (rows_bound (sing (cf c) X) (i + 1)).1
        rw [← HER.out, pr_len, sing_len] at h1
        have := HXL.out
        omega
      obtain ⟨rl, hrle⟩ : ∃ rl, rl = rs.length := ⟨_, rfl⟩
      rw [← hrle]
      have HRL := hide hrle
      by_cases hlt : i < l1
      · have hlti : (i : Int) < (l1 : Int) := by omega
        have HPA := hide (pairs_any B (.slice ra rs.length rc) rs wr HBR.out (by omega) (fun x hx => by
          have h1 : pr x ∈ rows (sing (cf c) X) (i + 1) := by rw [← HER.out]; exact List.mem_map.2 ⟨x, hx, rfl⟩
          have h2 := row_small (c := c) (by have := HXL.out; omega) HC.out (by have := HL1.out; omega) h1
          exact h2))
        rw [← hrle] at HPA
        clear hrle
        go_wp2_with fail
        refine HPA.out.mono ?_
        rintro e w4 ⟨pv, ps, rfl, hb4, he4, hf4⟩
        obtain ⟨pa, pc, hpv⟩ := hb4.form
        subst hpv
        obtain ⟨pl, hpl⟩ : ∃ pl, pl = ps.length := ⟨_, rfl⟩
        have hpl4 : pl ≤ 400 := by
          have h1 := congrArg List.length he4
          rw [pr_len, pairs_len, pr_len] at h1
          omega
        rw [← hpl]
        obtain ⟨w5, hw5⟩ : ∃ w5, w5 = w4.alloc (.cells #[.slice sa n sc, .slice pa pl pc] 185) := ⟨_, rfl⟩
        have hf45 : Fr No w4 w5 := by rw [hw5]; exact (Fr.refl _ _).alloc _
        have hb5 : w5.heap[w4.heap.size]? = some (.cells #[.slice sa n sc, .slice pa pl pc] 185 (0, 0)) := by rw [hw5]; exact alloc_at w4 _
        have hf5 : Fr No wr w5 := hf4.trans hf45
        have hse := slin_of (HBS.out.no hf5).row (ec_one _)
        have hsp := slin_of (hb4.no hf45).row (ec_one _)
        rw [← HNE.out] at hse
        rw [← hpl] at hsp
        have HCO := hide (concatB_any n pl w4.heap.size 2 (.slice sa n sc) (.slice pa pl pc) (es.flatMap ec) (ps.flatMap ec) w5 hse hsp hb5 (by omega))
        have HW5 := hide hw5
        have HF5 := hide hf5
        have HB5 := hide (And.intro (HBS.out.no hf5) (hb4.no hf45))
        have HE4 := hide he4
        have HPL := hide hpl
        have hs4 := hf4.size
        have hs5 := hf5.size
        clear hw5 hf45 hb5 hf5 hse hsp hb4 he4 hf4 hpl HPA
        go_wp2_with fail
        rw [← HW5.out]
        refine HCO.out.mono ?_
        rintro e w6 ⟨v6, rfl, hr6, hf6⟩
        obtain ⟨va, vc, hv6, _⟩ := orow_form hr6
        subst hv6
        obtain ⟨vl, hvl⟩ : ∃ vl, vl = n + pl := ⟨_, rfl⟩
        rw [← hvl] at hr6 ⊢
        have HB6 : Hid (Bn w6 B (.slice va vl vc) (es ++ ps)) := by
          refine ⟨?_, fun x hx => ?_⟩
          · rw [List.flatMap_append, List.length_append, ← HNE.out, ← HPL.out, ← hvl]
            exact orow_base hr6 (by have := HFR.out.2; omega)
          · rcases List.mem_append.1 hx with hx | hx
            · exact ownsRow_fr (HB5.out.1.sym x hx) hf6 (fun _ _ => no_no _)
            · exact orow_base (ownsRow_fr (HB5.out.2.sym x hx) hf6 (fun _ _ => no_no _)) (by have := HFR.out.2; omega)
        have HSO := hide (sort_any B (.slice va vl vc) (es ++ ps) w6 HB6.out (by rw [List.length_append]; have := HNE.out; have := HPL.out; omega))
        have HF6 := hide (HF5.out.trans hf6)
        have HR6 := hide (orow_base hr6 (show wr.heap.size ≤ w5.heap.size from hs5))
        have hvl8 : vl ≤ 800 := by omega
        clear hr6 hf6 hvl HCO
        go_wp2_with fail
        refine HSO.out.mono ?_
        rintro e w7 ⟨rfl, ⟨ys, q1, q2, q3, q4⟩, f7⟩
        have HF7 : Hid (Fr No wr w7) := HF6.out.trans2 (blk_own f7 HR6.out)
        have HY : Hid (ys.map pr = rows (sing (cf c) X) (i + 1 + 1)) := by
          unfold Hid
          have hsd : Sd (es.map pr) := by rw [HE2.out]; exact HS2.out
          have hsp : Sd (ps.map pr) := by rw [HE4.out, HER.out]; exact sd_pairs (sd_rows HS2.out _)
          have h1 := sorted_mrg (s := es) (p := ps) (sd_of_pr hsd) (sd_of_pr hsp) q2 q3
          rw [h1, mrg_map, HE2.out, HE4.out, HER.out]
          rfl
        have HQ1 := hide q1
        clear q1 q2 q3 q4 f7 HSO
        go_wp2
        refine ⟨⟨i + 1, ys, by omega, by go_num, HQ1.out, HY.out, HF7.out.at HGR.out (no_no _), HBS.out.no HF7.out, ⟨HFR.out.1.trans HF7.out, Nat.le_trans HFR.out.2 HF7.out.size⟩⟩, by simp [intOf]; omega⟩
      · have hil : i = l1 := by omega
        subst hil
        have hnlt : ¬ (i : Int) < (i : Int) := by omega
        have hiL : i + 1 = L := by have := HL1.out; omega
        rw [hiL] at HER
        -- how many are taken
        obtain ⟨m, hm⟩ : ∃ m, m = 2 * n - 2 := ⟨_, rfl⟩
        have hmr : m ≤ rl := by
          have h1 := long (c := cf c) (X := X) (L := L) (by omega) (by have := HX2.out.length_eq; have := cand_len c; have := HL3.out; omega)
          rw [← HER.out, pr_len, HXL.out] at h1
          omega
        obtain ⟨ra', rc', hra, hrc⟩ : ∃ ra' rc', (ra, rc) = (ra', rc') ∧ rl ≤ rc' := by
          obtain ⟨a1, c1, e1, e2⟩ := orow_form HBR.out.row
          injection e1 with e1 e3 e4
          exact ⟨ra, rc, rfl, by omega⟩
        injection hra with hra1 hra2
        subst hra1
        subst hra2
        have HKR : Hid (2 ≤ n → ∀ x, (syms ((rs.map pr).take m)).count x ≤ 15) := fun h2 x => by
          rw [HER.out]
          by_cases hx : x ∈ X
          · have h1 := (kraft (c := cf c) (X := X) (HX2.out.nodup_iff.2 (cand_nodup c)) (fun y hy => (cand_mem c y).1 (HX2.out.mem_iff.1 hy)) HS2.out L m (by rw [← HER.out, pr_len]; omega)).1 x hx
            omega
          · have : (syms ((rows (sing (cf c) X) L).take m)).count x = 0 := List.count_eq_zero_of_not_mem (fun h => by
              obtain ⟨b', hb', hxb⟩ := List.mem_flatMap.1 h
              exact hx ((ok_rows (cf c) X L b' (List.mem_of_mem_take hb')).2.2 x hxb))
            omega
        have HLT : Hid (∀ b' ∈ rs.map pr, ∀ x ∈ b'.2, x < N) := fun b' hb' x hx => by
          rw [HER.out] at hb'
          have := cand_lt (HX2.out.mem_iff.1 ((ok_rows (cf c) X L b' hb').2.2 x hx))
          rw [HN.out]
          exact this
        have HDONE : Hid (cntL N (Y0 ++ syms ((rs.map pr).take m)) = lens c X L) := by
          unfold Hid
          rcases HY0.out with ⟨h1, h2⟩ | ⟨h1, h2⟩
          · have hm0 : m = 0 := by omega
            rw [hm0, List.take_zero, h2, HN.out]
            show cntL c.length (X ++ []) = _
            rw [List.append_nil]
            exact cntL_one (by have := HXL.out; omega)
          · rw [h2, List.nil_append, HER.out, HN.out, hm]
            have := cntL_all (c := c) (X := X) (L := L) (by have := HXL.out; omega)
            rw [HXL.out] at this
            exact this
        have HY2 : Hid (2 ≤ n → Y0 = []) := fun h2 => by
          rcases HY0.out with ⟨h1, _⟩ | ⟨_, h1⟩
          · omega
          · exact h1
        have hmi : (2 : Int) * (n : Int) - 2 ≤ 0 ∧ m = 0 ∨ (2 : Int) * (n : Int) - 2 = (m : Int) ∧ 2 ≤ n := by omega
        have HM := hide hm
        clear hrle hm hiL
        rcases hmi with ⟨hneg, hm0⟩ | ⟨hpos, hn2⟩
        · have hneg : n = 1 := HN1.out
          have hn2i : 2 * (n : Int) = 2 := by omega
          have HD0 : Hid (cntL N Y0 = lens c X L) := by
            have := HDONE.out
            rw [hm0, List.take_zero] at this
            have e : Y0 ++ syms [] = Y0 := List.append_nil _
            rw [e] at this
            exact this
          clear hneg hmr HKR HDONE HM hm0
          go_wp2_with fail
          refine wp_loop_rounds 1 ?_
          rw [rounds_succ]
          go_wp2
          go_ret
          rw [HD0.out] at HGR
          refine ⟨g, X, ?_, ?_, HGR.out, HX2.out, HS2.out, HFR.out.1⟩
          · rw [HG.out]; exact Nat.le_refl _
          · rw [← HN.out]; rfl
        · have := HN1.out
          omega
  · have hn1i : ((n : Int) == 1) = false := by simp; omega
    obtain ⟨Y0, hY0⟩ : ∃ Y0 : List Nat, Y0 = [] := ⟨_, rfl⟩
    have HG3 : Hid (w2.heap[g]? = some (.cells (uvs (cntL N Y0)) 5 (0, 0))) := by rw [hY0]; exact HG2.out
    have HB3 := HB2
    have HF3 : Hid (Fr No w w2 ∧ B ≤ w2.heap.size) := ⟨HF2.out, hsz12⟩
    have HY0 : Hid ((n = 1 ∧ Y0 = X) ∨ (n ≠ 1 ∧ Y0 = [])) := .inr ⟨hn1, hY0⟩
    clear hY0 hx2 HB2 HG2
    go_wp2_with fail
    go_loopw [7, 31] (fun rv iv wr => ∃ (i : Nat) (rs : List El), i ≤ l1 ∧ iv = .int .i64 i ∧ Hid (Bn wr B rv rs) ∧ Hid (rs.map pr = rows (sing (cf c) X) (i + 1)) ∧ Hid (wr.heap[g]? = some (.cells (uvs (cntL N Y0)) 5 (0, 0))) ∧ Hid (Bn wr B (.slice sa n sc) es) ∧ Hid (Fr No w wr ∧ B ≤ wr.heap.size)) (fun _ iv _ => l1 - (intOf iv).toNat)
    case atStart => exact ⟨0, es, Nat.zero_le _, rfl, HB3.out, by unfold Hid; rw [HE2.out, rows_one], HG3.out, HB3.out, HF3.out⟩
    case round =>
      obtain ⟨i, rs, hi, rfl, HBR, HER, HGR, HBS, HFR⟩ := hrel
      obtain ⟨ra, rc, hrv⟩ := HBR.out.form
      subst hrv
      have hrl : rs.length ≤ 800 := by
        have h1 := (rows_bound (sing (cf c) X) (i + 1)).1
        rw [← HER.out, pr_len, sing_len] at h1
        have := HXL.out
        omega
      obtain ⟨rl, hrle⟩ : ∃ rl, rl = rs.length := ⟨_, rfl⟩
      rw [← hrle]
      have HRL := hide hrle
      by_cases hlt : i < l1
      · have hlti : (i : Int) < (l1 : Int) := by omega
        have HPA := hide (pairs_any B (.slice ra rs.length rc) rs wr HBR.out (by omega) (fun x hx => by
          have h1 : pr x ∈ rows (sing (cf c) X) (i + 1) := by rw [← HER.out]; exact List.mem_map.2 ⟨x, hx, rfl⟩
          have h2 := row_small (c := c) (by have := HXL.out; omega) HC.out (by have := HL1.out; omega) h1
          exact h2))
        rw [← hrle] at HPA
        clear hrle
        go_wp2_with fail
        refine HPA.out.mono ?_
        rintro e w4 ⟨pv, ps, rfl, hb4, he4, hf4⟩
        obtain ⟨pa, pc, hpv⟩ := hb4.form
        subst hpv
        obtain ⟨pl, hpl⟩ : ∃ pl, pl = ps.length := ⟨_, rfl⟩
        have hpl4 : pl ≤ 400 := by
          have h1 := congrArg List.length he4
          rw [pr_len, pairs_len, pr_len] at h1
          omega
        rw [← hpl]
        obtain ⟨w5, hw5⟩ : ∃ w5, w5 = w4.alloc (.cells #[.slice sa n sc, .slice pa pl pc] 185) := ⟨_, rfl⟩
        have hf45 : Fr No w4 w5 := by rw [hw5]; exact (Fr.refl _ _).alloc _
        have hb5 : w5.heap[w4.heap.size]? = some (.cells #[.slice sa n sc, .slice pa pl pc] 185 (0, 0)) := by rw [hw5]; exact alloc_at w4 _
        have hf5 : Fr No wr w5 := hf4.trans hf45
        have hse := slin_of (HBS.out.no hf5).row (ec_one _)
        have hsp := slin_of (hb4.no hf45).row (ec_one _)
        rw [← HNE.out] at hse
        rw [← hpl] at hsp
        have HCO := hide (concatB_any n pl w4.heap.size 2 (.slice sa n sc) (.slice pa pl pc) (es.flatMap ec) (ps.flatMap ec) w5 hse hsp hb5 (by omega))
        have HW5 := hide hw5
        have HF5 := hide hf5
        have HB5 := hide (And.intro (HBS.out.no hf5) (hb4.no hf45))
        have HE4 := hide he4
        have HPL := hide hpl
        have hs4 := hf4.size
        have hs5 := hf5.size
        clear hw5 hf45 hb5 hf5 hse hsp hb4 he4 hf4 hpl HPA
        go_wp2_with fail
        rw [← HW5.out]
        refine HCO.out.mono ?_
        rintro e w6 ⟨v6, rfl, hr6, hf6⟩
        obtain ⟨va, vc, hv6, _⟩ := orow_form hr6
        subst hv6
        obtain ⟨vl, hvl⟩ : ∃ vl, vl = n + pl := ⟨_, rfl⟩
        rw [← hvl] at hr6 ⊢
        have HB6 : Hid (Bn w6 B (.slice va vl vc) (es ++ ps)) := by
          refine ⟨?_, fun x hx => ?_⟩
          · rw [List.flatMap_append, List.length_append, ← HNE.out, ← HPL.out, ← hvl]
            exact orow_base hr6 (by have := HFR.out.2; omega)
          · rcases List.mem_append.1 hx with hx | hx
            · exact ownsRow_fr (HB5.out.1.sym x hx) hf6 (fun _ _ => no_no _)
            · exact orow_base (ownsRow_fr (HB5.out.2.sym x hx) hf6 (fun _ _ => no_no _)) (by have := HFR.out.2; omega)
        have HSO := hide (sort_any B (.slice va vl vc) (es ++ ps) w6 HB6.out (by rw [List.length_append]; have := HNE.out; have := HPL.out; omega))
        have HF6 := hide (HF5.out.trans hf6)
        have HR6 := hide (orow_base hr6 (show wr.heap.size ≤ w5.heap.size from hs5))
        have hvl8 : vl ≤ 800 := by omega
        clear hr6 hf6 hvl HCO
        go_wp2_with fail
        refine HSO.out.mono ?_
        rintro e w7 ⟨rfl, ⟨ys, q1, q2, q3, q4⟩, f7⟩
        have HF7 : Hid (Fr No wr w7) := HF6.out.trans2 (blk_own f7 HR6.out)
        have HY : Hid (ys.map pr = rows (sing (cf c) X) (i + 1 + 1)) := by
          unfold Hid
          have hsd : Sd (es.map pr) := by rw [HE2.out]; exact HS2.out
          have hsp : Sd (ps.map pr) := by rw [HE4.out, HER.out]; exact sd_pairs (sd_rows HS2.out _)
          have h1 := sorted_mrg (s := es) (p := ps) (sd_of_pr hsd) (sd_of_pr hsp) q2 q3
          rw [h1, mrg_map, HE2.out, HE4.out, HER.out]
          rfl
        have HQ1 := hide q1
        clear q1 q2 q3 q4 f7 HSO
        go_wp2
        refine ⟨⟨i + 1, ys, by omega, by go_num, HQ1.out, HY.out, HF7.out.at HGR.out (no_no _), HBS.out.no HF7.out, ⟨HFR.out.1.trans HF7.out, Nat.le_trans HFR.out.2 HF7.out.size⟩⟩, by simp [intOf]; omega⟩
      · have hil : i = l1 := by omega
        subst hil
        have hnlt : ¬ (i : Int) < (i : Int) := by omega
        have hiL : i + 1 = L := by have := HL1.out; omega
        rw [hiL] at HER
        -- how many are taken
        obtain ⟨m, hm⟩ : ∃ m, m = 2 * n - 2 := ⟨_, rfl⟩
        have hmr : m ≤ rl := by
          have h1 := long (c := cf c) (X := X) (L := L) (by omega) (by have := HX2.out.length_eq; have := cand_len c; have := HL3.out; omega)
          rw [← HER.out, pr_len, HXL.out] at h1
          omega
        obtain ⟨ra', rc', hra, hrc⟩ : ∃ ra' rc', (ra, rc) = (ra', rc') ∧ rl ≤ rc' := by
          obtain ⟨a1, c1, e1, e2⟩ := orow_form HBR.out.row
          injection e1 with e1 e3 e4
          exact ⟨ra, rc, rfl, by omega⟩
        injection hra with hra1 hra2
        subst hra1
        subst hra2
        have HKR : Hid (2 ≤ n → ∀ x, (syms ((rs.map pr).take m)).count x ≤ 15) := fun h2 x => by
          rw [HER.out]
          by_cases hx : x ∈ X
          · have h1 := (kraft (c := cf c) (X := X) (HX2.out.nodup_iff.2 (cand_nodup c)) (fun y hy => (cand_mem c y).1 (HX2.out.mem_iff.1 hy)) HS2.out L m (by rw [← HER.out, pr_len]; omega)).1 x hx
            omega
          · have : (syms ((rows (sing (cf c) X) L).take m)).count x = 0 := List.count_eq_zero_of_not_mem (fun h => by
              obtain ⟨b', hb', hxb⟩ := List.mem_flatMap.1 h
              exact hx ((ok_rows (cf c) X L b' (List.mem_of_mem_take hb')).2.2 x hxb))
            omega
        have HLT : Hid (∀ b' ∈ rs.map pr, ∀ x ∈ b'.2, x < N) := fun b' hb' x hx => by
          rw [HER.out] at hb'
          have := cand_lt (HX2.out.mem_iff.1 ((ok_rows (cf c) X L b' hb').2.2 x hx))
          rw [HN.out]
          exact this
        have HDONE : Hid (cntL N (Y0 ++ syms ((rs.map pr).take m)) = lens c X L) := by
          unfold Hid
          rcases HY0.out with ⟨h1, h2⟩ | ⟨h1, h2⟩
          · have hm0 : m = 0 := by omega
            rw [hm0, List.take_zero, h2, HN.out]
            show cntL c.length (X ++ []) = _
            rw [List.append_nil]
            exact cntL_one (by have := HXL.out; omega)
          · rw [h2, List.nil_append, HER.out, HN.out, hm]
            have := cntL_all (c := c) (X := X) (L := L) (by have := HXL.out; omega)
            rw [HXL.out] at this
            exact this
        have HY2 : Hid (2 ≤ n → Y0 = []) := fun h2 => by
          rcases HY0.out with ⟨h1, _⟩ | ⟨_, h1⟩
          · omega
          · exact h1
        have hmi : (2 : Int) * (n : Int) - 2 ≤ 0 ∧ m = 0 ∨ (2 : Int) * (n : Int) - 2 = (m : Int) ∧ 2 ≤ n := by omega
        have HM := hide hm
        clear hrle hm hiL
        rcases hmi with ⟨hneg, hm0⟩ | ⟨hpos, hn2⟩
        · have hneg : n = 0 := by omega
          have hn2i : 2 * (n : Int) = 0 := by omega
          have HD0 : Hid (cntL N Y0 = lens c X L) := by
            have := HDONE.out
            rw [hm0, List.take_zero] at this
            have e : Y0 ++ syms [] = Y0 := List.append_nil _
            rw [e] at this
            exact this
          clear hneg hmr HKR HDONE HM hm0
          go_wp2_with fail
          refine wp_loop_rounds 1 ?_
          rw [rounds_succ]
          go_wp2
          go_ret
          rw [HD0.out] at HGR
          refine ⟨g, X, ?_, ?_, HGR.out, HX2.out, HS2.out, HFR.out.1⟩
          · rw [HG.out]; exact Nat.le_refl _
          · rw [← HN.out]; rfl
        · skip
          have hmx : (0 : Int) ≤ (m : Int) := by omega
          have wm : IntKind.i64.wrap (m : Int) = m := wraps_i64 _ (by omega) (by omega)
          obtain ⟨n2, hn2e⟩ : ∃ n2, n2 = 2 * n := ⟨_, rfl⟩
          have hn2i : 2 * (n : Int) = (n2 : Int) := by omega
          have hn2j : (n2 : Int) - 2 = (m : Int) := by omega
          have wn2 : IntKind.i64.wrap (n2 : Int) = n2 := wraps_i64 _ (by omega) (by omega)
          have hmrc : (m : Int) ≤ (rc : Int) := by omega
          clear hn2e hpos
          go_wp2_with fail
          go_loopw [49] (fun qv wq => ∃ q : Nat, q ≤ m ∧ qv = .int .i64 q ∧ Hid (wq.heap[g]? = some (.cells (uvs (cntL N (Y0 ++ syms ((rs.map pr).take q)))) 5 (0, 0))) ∧ Hid (Bn wq B (.slice ra rs.length rc) rs) ∧ Hid (Fr No w wq ∧ B ≤ wq.heap.size)) (fun qv _ => m - (intOf qv).toNat)
          case atStart =>
            refine ⟨0, Nat.zero_le _, rfl, ?_, HBR.out, HFR.out⟩
            unfold Hid
            rw [List.take_zero]
            show _ = some (Obj.cells (uvs (cntL N (Y0 ++ []))) 5 (0, 0))
            rw [List.append_nil]
            exact HGR.out
          case round =>
            obtain ⟨q, hq, rfl, HGQ, HBQ, HFQ⟩ := hrel
            by_cases hqm : q < m
            · have hqmi : (q : Int) < (m : Int) := by omega
              have hn2 : 2 ≤ n := by have := HM.out; omega
              have hY := HY2.out hn2
              have hqr : q < rs.length := by have := HRL.out; omega
              obtain ⟨gr, hgr, cur, hrw⟩ : ∃ gr, ra = some ⟨gr, 0, none⟩ ∧ ∃ cur, Rw wr gr rs cur := by
                rcases HBQ.out.row.2 with ⟨e1, e2⟩ | ⟨gr, cp, cur0, e1, r⟩
                · omega
                · have hrow := HBQ.out.row
                  injection e1 with e1 e2 e3
                  subst e1
                  obtain ⟨cur, q1, _⟩ := rw_of hrow rfl
                  exact ⟨gr, rfl, cur, q1⟩
              subst hgr
              have c0 := hrw.c0 hqr
              have c1 := hrw.c1 hqr
              have hsy := HBQ.out.sym (rs.getD q ed) (by rw [List.getD, List.getElem?_eq_getElem hqr]; exact List.getElem_mem _)
              have hprq : (rs.map pr).getD q (0, []) = pr (rs.getD q ed) := by rw [List.getD, List.getD, List.getElem?_map, List.getElem?_eq_getElem hqr]; rfl
              have HSN := hide (syms_snoc (rs.map pr) q (by rw [pr_len]; exact hqr))
              rw [hprq] at HSN
              have HLQ : Hid (∀ x ∈ (rs.getD q ed).2.2, x < N) := fun x hx => HLT.out (pr (rs.getD q ed)) (List.mem_map.2 ⟨_, by rw [List.getD, List.getElem?_eq_getElem hqr]; exact List.getElem_mem _, rfl⟩) x hx
              obtain ⟨el, hel⟩ : ∃ el, el = rs.getD q ed := ⟨_, rfl⟩
              rw [← hel] at c0 c1 hsy HSN HLQ
              obtain ⟨sx, sc', hsvx, hsx⟩ := sym_row hsy
              rw [hsvx] at c1
              obtain ⟨ll, hll⟩ : ∃ ll, ll = el.2.2.length := ⟨_, rfl⟩
              rw [← hll] at c1 hsx
              obtain ⟨el1, hel1⟩ : ∃ el1, el1 = el.1 := ⟨_, rfl⟩
              rw [← hel1] at c0
              have hqrl : (q : Int) < (rl : Int) := by have := HRL.out; omega
              have HSX := hide hsx
              have HLL := hide hll
              have hlll : ll ≤ 1000000 := by
                have h1 := syms_one (l := rs.map pr) (b := pr el) (List.mem_map.2 ⟨el, by rw [hel, List.getD, List.getElem?_eq_getElem hqr]; exact List.getElem_mem _, rfl⟩)
                have h2 := (rows_bound (sing (cf c) X) L).2
                rw [← HER.out, syms_sing] at h2
                have h3 : L * X.length ≤ 15 * 400 := Nat.mul_le_mul hL2 (by have := HXL.out; omega)
                have h4 : (pr el).2.length = ll := by rw [hll]; rfl
                omega
              obtain ⟨wb, hwb⟩ : ∃ wb, wb = wr.alloc (.cells #[.int .i64 (el1 : Nat), .slice sx ll sc'] 188) := ⟨_, rfl⟩
              have hfb : Fr No wr wb := by rw [hwb]; exact (Fr.refl _ _).alloc _
              have hbb : wb.heap[wr.heap.size]? = some (.cells #[.int .i64 (el1 : Nat), .slice sx ll sc'] 188 (0, 0)) := by rw [hwb]; exact alloc_at wr _
              have cb1 : wb.cell? ⟨wr.heap.size, 1, none⟩ = some (.slice sx ll sc') := by rw [cell_of hbb]; rfl
              have HWB := hide hwb
              have HFB := hide hfb
              have hgwr : g < wr.heap.size := lt_of HGQ.out
              clear hsx hll hel1 hwb hfb hbb hsy hprq hsvx hel hrw
              go_wp2_with fail
              rw [← HWB.out]
              go_wp2_with fail
              go_loopw [56] (fun jv wj => ∃ j : Nat, j ≤ ll ∧ jv = .int .i64 j ∧ Hid (wj.heap[g]? = some (.cells (uvs (cntL N (Y0 ++ syms ((rs.map pr).take q) ++ el.2.2.take j))) 5 (0, 0))) ∧ Hid (Fr (One g) wb wj)) (fun jv _ => ll - (intOf jv).toNat)
              case atStart =>
                refine ⟨0, Nat.zero_le _, rfl, ?_, Fr.refl _ _⟩
                unfold Hid
                rw [List.take_zero, List.append_nil]
                exact HFB.out.at HGQ.out (no_no _)
              case round =>
                obtain ⟨j, hj, rfl, HGJ, HFJ⟩ := hrel
                by_cases hjl : j < ll
                · have hjli : (j : Int) < (ll : Int) := by omega
                  obtain ⟨sb, hsb, hBs, hsl, hcj⟩ := HSX.out j hjl
                  subst hsb
                  have hgB : g < B := hgl
                  have hsw : sb < wb.heap.size := Nat.lt_of_lt_of_le hsl HFB.out.size
                  have hcj2 := (HFJ.out.cell (p := ⟨sb, j, none⟩) hsw (one_ne (show sb ≠ g by omega))).trans ((HFB.out.cell (p := ⟨sb, j, none⟩) hsl (no_no _)).trans hcj)
                  have hxN : el.2.2.getD j 0 < N := HLQ.out _ (by rw [List.getD, List.getElem?_eq_getElem (by rw [← HLL.out]; exact hjl)]; exact List.getElem_mem _)
                  have HTS := hide (take_snoc el.2.2 j (by rw [← HLL.out]; exact hjl))
                  obtain ⟨x, hx⟩ : ∃ x, x = el.2.2.getD j 0 := ⟨_, rfl⟩
                  rw [← hx] at hcj2 hxN HTS
                  have hcnt := cntL_get N (Y0 ++ syms ((rs.map pr).take q) ++ el.2.2.take j) x hxN
                  have hset := cntL_set N (Y0 ++ syms ((rs.map pr).take q) ++ el.2.2.take j) x hxN
                  have hle : (Y0 ++ syms ((rs.map pr).take q) ++ el.2.2.take j).count x ≤ 15 := by
                    rw [hY, List.nil_append]
                    have h1 := HKR.out hn2 x
                    have e1 : syms ((rs.map pr).take m) = syms ((rs.map pr).take (q + 1)) ++ syms (((rs.map pr).take m).drop (q + 1)) := by
                      have e2 := syms_app (((rs.map pr).take m).take (q + 1)) (((rs.map pr).take m).drop (q + 1))
                      rw [List.take_append_drop, List.take_take, Nat.min_eq_left (by omega)] at e2
                      exact e2
                    rw [e1, HSN.out, List.append_assoc] at h1
                    have e3 : (pr el).2 = el.2.2.take j ++ el.2.2.drop j := by rw [List.take_append_drop]; rfl
                    rw [e3, List.append_assoc, ← List.append_assoc] at h1
                    have := count_pre (syms ((rs.map pr).take q) ++ el.2.2.take j) (el.2.2.drop j ++ syms (((rs.map pr).take m).drop (q + 1))) x
                    omega
                  obtain ⟨Z, hZ⟩ : ∃ Z, Z = Y0 ++ syms ((rs.map pr).take q) ++ el.2.2.take j := ⟨_, rfl⟩
                  have HGZ : Hid (wr.heap[g]? = some (.cells (uvs (cntL N Z)) 5 (0, 0))) := by rw [hZ]; exact HGJ.out
                  rw [← hZ] at hcnt hset hle
                  obtain ⟨cx, hcx⟩ : ∃ cx, cx = Z.count x := ⟨_, rfl⟩
                  rw [← hcx] at hcnt hset hle
                  have hcell : wr.cell? ⟨g, x, none⟩ = some (.int .u8 (cx : Nat)) := by rw [cell_of HGZ.out, uvs_get (by rw [cntL_len]; exact hxN), hcnt]
                  have hfz := frozen_of HGZ.out x
                  have hxNi : (x : Int) < (N : Int) := by omega
                  have wcx : IntKind.u8.wrap ((cx : Int) + 1) = ((cx + 1 : Nat) : Int) := by rw [IntKind.wrap_u8]; omega
                  have hnew : (wr.setCell ⟨g, x, none⟩ (.int .u8 ((cx + 1 : Nat) : Int))).heap[g]? = some (.cells (uvs (cntL N (Z ++ [x]))) 5 (0, 0)) := by rw [set_of HGZ.out, uvs_set, hset]
                  have HNW := hide hnew
                  have HZ := hide hZ
                  have HFN := hide (HFJ.out.setCell (p := ⟨g, x, none⟩) (fun _ => rfl) (.int .u8 ((cx + 1 : Nat) : Int)))
                  obtain ⟨cy, hcy⟩ : ∃ cy, cy = cx + 1 := ⟨_, rfl⟩
                  rw [← hcy] at wcx HNW HFN
                  clear hcnt hset hle hcx hnew hZ hx hcj hcy
                  go_wp2_with fail
                  refine ⟨⟨j + 1, by omega, by go_num, ?_, HFN.out⟩, by simp [intOf]; omega⟩
                  unfold Hid
                  rw [HTS.out, ← List.append_assoc, ← HZ.out]
                  exact HNW.out
                · have hje : j = ll := by omega
                  subst hje
                  have hjli : ¬ (j : Int) < (j : Int) := by omega
                  have HFW : Hid (Fr No w wr) := HFQ.out.1.trans2b HFB.out HFJ.out (by have := HG.out; omega)
                  have HBW : Hid (Bn wr B (.slice (some ⟨gr, 0, none⟩) rs.length rc) rs) := (HBQ.out.no HFB.out).fr HFJ.out (fun k hk _ => one_ne (by omega))
                  go_wp2_with fail
                  refine ⟨⟨q + 1, by omega, by go_num, ?_, HBW.out, ⟨HFW.out, ?_⟩⟩, by simp [intOf]; omega⟩
                  · unfold Hid
                    rw [HSN.out, ← List.append_assoc]
                    have := HGJ.out
                    rw [HLL.out, List.take_length] at this
                    exact this
                  · exact Nat.le_trans HFQ.out.2 (Nat.le_trans HFB.out.size HFJ.out.size)
            · have hqe : q = m := by omega
              subst hqe
              have hqmi : ¬ (q : Int) < (q : Int) := by omega
              go_wp2
              go_ret
              rw [HDONE.out] at HGQ
              refine ⟨g, X, ?_, ?_, HGQ.out, HX2.out, HS2.out, HFQ.out.1⟩
              · rw [HG.out]; exact Nat.le_refl _
              · rw [← HN.out]; rfl
end Go.Proofs.YtjjjlilflbddoaaDoor
