import Derived.Test.YtjjjlilflbddoaaDoorBsC
/-
  The law Best.
-/
namespace Go.Proofs.YtjjjlilflbddoaaDoor
open Go.RowKit Pm

/-- Numbers that were brought. -/
def NumsB (w : World) (v : Value) (n : Nat) : Prop := ∃ a cap, ∃ zs : List Int, v = .slice a n cap ∧ n ≤ cap ∧ zs.length = n ∧ ∀ j, j < n → ∃ b off, a = some ⟨b, off, none⟩ ∧ b < w.heap.size ∧ w.cell? ⟨b, off + j, none⟩ = some (.int .i64 (zs.getD j 0))
/-- The numbers, once they are all right. -/
theorem nums_row {w : World} {b off : Nat} {zs : List Int} (hb : b < w.heap.size) (h : ∀ j, j < zs.length → w.cell? ⟨b, off + j, none⟩ = some (.int .i64 (zs.getD j 0))) (h0 : ∀ j, j < zs.length → 0 ≤ zs.getD j 0 ∧ zs.getD j 0 ≤ 15) : RowAt w b off (zs.map Int.toNat) ∧ Lens (zs.map Int.toNat) := by
  have e : ∀ j, j < zs.length → ((zs.map Int.toNat).getD j 0 : Int) = zs.getD j 0 := fun j hj => by
    have := h0 j hj
    rw [List.getD, List.getElem?_map, List.getD, List.getElem?_eq_getElem hj] at *
    simp only [Option.map_some, Option.getD_some] at *
    omega
  refine ⟨⟨hb, fun i hi => ?_⟩, fun i hi => ?_⟩
  · rw [List.length_map] at hi
    rw [h i hi, e i hi]
  · rw [List.length_map] at hi
    have h1 := e i hi
    have h2 := h0 i hi
    omega
theorem lens_cf {l : List Nat} (h : Lens l) (i : Nat) : cf l i ≤ 15 := by
  rcases Nat.lt_or_ge i l.length with hi | hi
  · exact h i hi
  · unfold cf; rw [List.getD, List.getElem?_eq_none hi]; exact Nat.zero_le _
theorem lens_takeB {l : List Nat} (h : Lens l) (k : Nat) : Lens (l.take k) := fun i hi => by
  rw [List.length_take] at hi
  have := h i (by omega)
  rw [List.getD, List.getElem?_take_of_lt (by omega)]
  exact this
theorem lens_dropB {l : List Nat} (h : Lens l) (k : Nat) : Lens (l.drop k) := fun i hi => by
  rw [List.length_drop] at hi
  have := h (k + i) (by omega)
  rw [List.getD, List.getElem?_drop]
  exact this

set_option maxRecDepth 100000 in
set_option maxHeartbeats 1600000 in
theorem bestLaw_long (t : ByteArray) (v : Value) (w : World) (ht : 1500 < t.size) : Calls Tryd.prog 8 #[.string t, v] w fun e w' => e = .returned (.bool true) ∧ Fr No w w' := by
  have H1 := hide (deflate_long t 2 w (by omega) (by omega) ht)
  have H2 := hide (refused_long t 2 w (by omega) (by omega) ht)
  have H3 := hide (numW_any 1 w)
  clear ht
  go_enter Tryd.func8, Tryd.ntmps8
  go_wp2_with fail
  refine H1.out.mono ?_
  rintro ee W1 ⟨rfl, hW1⟩
  have hW1 := hW1.symm
  subst hW1
  unfold dfl
  go_wp2_with fail
  refine H2.out.mono ?_
  rintro ee W1 ⟨rfl, hW1⟩
  have hW1 := hW1.symm
  subst hW1
  go_wp2_with fail
  refine H3.out.mono ?_
  rintro ee W1 ⟨rfl, hW1⟩
  have hW1 := hW1.symm
  subst hW1
  go_wp2_with fail
  go_ret
  exact ⟨rfl, Fr.refl _ _⟩

set_option maxRecDepth 100000 in
set_option maxHeartbeats 12800000 in
theorem bestLaw_any (t : ByteArray) (v : Value) (len : Nat) (w : World) (hN : NumsB w v len) (ht : t.size ≤ 1500) (hE : PkEnv w) (hO : OrdAt w) (hG : 11 < w.heap.size) :
    Calls Tryd.prog 8 #[.string t, v] w fun e w' => e = .returned (.bool true) ∧ Fr No w w' := by
  have htl : t.data.toList.length = t.size := by simp
  have H1 := hide (deflate_any t 2 w (by omega) ht hE)
  have H2 := hide (fun w => refused_no t 2 w (by omega) (by omega) ht)
  have H3 := hide (numW_any 0)
  have H4 := hide (fun w => rtokens_any t w ht)
  have HO := hide hO
  have HTL := hide htl
  obtain ⟨a, cap, zs, rfl, hcap, hzl, hzz⟩ := hN
  have HZ := hide hzz
  have HZL := hide hzl
  clear hE hO htl hzz hzl
  go_enter Tryd.func8, Tryd.ntmps8
  go_wp2_with fail
  refine H1.out.mono ?_
  rintro ee w1 ⟨bs, hp, rfl, hf1⟩
  obtain ⟨ls, lf, tl, b1, b2, b3, hbs⟩ : ∃ ls lf tl, Bst (Pk.symC (Pk.toks t.data.toList)) 15 ls ∧ Bst (Pk.farC (Pk.toks t.data.toList)) 15 lf ∧ Bst (Pk.telC (Pk.tells (Pk.allOf ls lf))) 7 tl ∧ bs = Pk.packed2 t.data.toList ls lf tl := by
    rcases hp with ⟨h, _⟩ | ⟨h, _⟩ | ⟨_, h⟩
    · omega
    · omega
    · exact h
  have hHd := Pk.head_of b1 b2 b3
  have hrd := Pk.read2 t.data.toList 1500 hHd (Pk.suf_of b1 b2) (by have := HTL.out; omega) (by have := HTL.out; omega)
  have hbl := Pk.size2 t.data.toList hHd (by have := HTL.out; omega)
  rw [← hbs] at hrd hbl
  have HF1 := hide hf1
  have hsz : (Pk.toBytes bs).length ≤ 4000 := by rw [Pk.bytes_len]; omega
  have hO1 := HO.out.fr hf1 (no_no _) hG
  have hG1 : 11 < w1.heap.size := Nat.lt_of_lt_of_le hG hf1.size
  unfold dfl
  obtain ⟨s, hs⟩ : ∃ s : ByteArray, s = ⟨(Pk.toBytes bs).toArray⟩ := ⟨_, rfl⟩
  have hsl : s.data.toList = Pk.toBytes bs := by rw [hs]
  have hss : s.size ≤ 4000 := by rw [hs]; show (Pk.toBytes bs).toArray.size ≤ 4000; simpa using hsz
  rw [← hs]
  have HRD := hide (rread_any s 1500 w1 hO1 hG1 hss (by omega) (fun p k h => lens_bad h))
  rw [hsl, hrd] at HRD
  have HSL := hide hsl
  have hlsl : ls.length = 288 := by rw [b1.len]; simp [Pk.symC]
  have hlfl : lf.length = 32 := by rw [b2.len]; simp [Pk.farC]
  obtain ⟨key, hkey⟩ : ∃ key, key = ls.take 286 ++ lf.take 30 := ⟨_, rfl⟩
  have hkl : key.length = 316 := by rw [hkey]; simp; omega
  rw [← hkey] at HRD
  have HKT : Hid (key.take 286 = ls.take 286) := by unfold Hid; rw [hkey, List.take_append_of_le_length (by simp; omega), List.take_of_length_le (by simp; omega)]
  have HKD : Hid (key.drop 286 = lf.take 30) := by unfold Hid; rw [hkey, List.drop_append_of_le_length (by simp; omega), List.drop_of_length_le (by simp; omega), List.nil_append]
  have HB1 := hide b1
  have HB2 := hide b2
  obtain ⟨nb, hnb⟩ : ∃ nb, nb = bs.length := ⟨_, rfl⟩
  rw [← hnb] at HRD
  clear hf1 hp hrd hbl hsz hO1 hs hsl b1 b2 b3 hHd hbs hkey hlsl hlfl hnb
  go_wp2_with fail
  refine (H2.out w1).mono ?_
  rintro ee W1 ⟨rfl, hW1⟩
  have hW1 := hW1.symm
  subst hW1
  go_wp2_with fail
  refine HRD.out.mono ?_
  intro ee w2 hrp
  rw [← HSL.out] at hrp
  obtain ⟨ov, nv, tv, hFd⟩ := found_of hrp
  obtain ⟨g, kcap, kb, ko, kc, c7, hgl, cg, hkc, hrow⟩ := found_key (by omega) hrp
  obtain ⟨rfl, hf2, _⟩ := hrp
  have HF2 := hide (HF1.out.trans hf2)
  have hrbl := hFd.lt
  have c4 := hFd.c4
  obtain ⟨rb, hrb⟩ : ∃ rb, rb = w1.heap.size := ⟨_, rfl⟩
  rw [← hrb] at c4 c7 hrbl ⊢
  rw [hkl] at cg hkc
  have HROW := hide hrow
  clear hf2 hFd hrb HRD hrow
  go_wp2_with fail
  refine (H3.out _).mono ?_
  rintro ee W1 ⟨rfl, hW1⟩
  have hW1 := hW1.symm
  subst hW1
  go_wp2_with fail
  refine (H4.out w2).mono ?_
  rintro ee w3 ⟨tv2, rfl, hrow3, hf3⟩
  obtain ⟨a2, cp2, rfl, hta2⟩ := toks_at hrow3
  have hTN : (Pk.toks t.data.toList).length ≤ 1500 := by have := Pk.toks_len t.data.toList; have := HTL.out; omega
  have HC := hide (rcounts_any a2 cp2 (Pk.toks t.data.toList) w3 hta2 (toks_okT _ (by have := HTL.out; omega)) hTN)
  have HF3 := hide (HF2.out.trans hf3)
  have HROW3 := hide (HROW.out.fr hf3)
  have c7 := (hf3.cell (p := ⟨rb, 7, none⟩) hrbl (no_no _)).trans c7
  have cg := (hf3.cell (p := ⟨g, 0, none⟩) hgl (no_no _)).trans cg
  have hrbl := Nat.lt_of_lt_of_le hrbl hf3.size
  have hgl := Nat.lt_of_lt_of_le hgl hf3.size
  have HTN := hide hTN
  obtain ⟨m, hm⟩ : ∃ m, m = (Pk.toks t.data.toList).length := ⟨_, rfl⟩
  rw [← hm] at HC ⊢
  clear hf3 hrow3 hta2 hTN hm H4 c4 HROW
  go_wp2_with fail
  refine HC.out.mono ?_
  rintro ee w4 ⟨sb, db, rfl, hsb, hdb, hf4⟩
  have HS4 := hide (row_ivs hsb)
  have HD4 := hide (row_ivs hdb)
  have HF4 := hide (HF3.out.trans hf4)
  have HROW4 := hide (HROW3.out.fr hf4)
  have c7 := (hf4.cell (p := ⟨rb, 7, none⟩) hrbl (no_no _)).trans c7
  have cg := (hf4.cell (p := ⟨g, 0, none⟩) hgl (no_no _)).trans cg
  have hrbl := Nat.lt_of_lt_of_le hrbl hf4.size
  have hgl := Nat.lt_of_lt_of_le hgl hf4.size
  clear hf4 hsb hdb HC HROW3
  have hk1 : (286 : Int) ≤ (kc : Int) := by omega
  have HKL := hide hkl
  clear hkl
  go_wp2_with fail
  refine (costS_any (bl := kb) (l := key.take 286) w4 HS4.out (HROW4.out.take (by have := HKL.out; omega) (by first | rfl | omega)) (by have := HKL.out; rw [List.length_take]; omega) (fun i => by rw [HKT.out]; exact Nat.le_trans (cf_take_le _ _ _) (HB1.out.le i)) HTN.out).mono ?_
  intro ee w5 k5
  obtain ⟨rfl, hf5⟩ := (k5.same (c' := Pk.docSym (Pk.toks t.data.toList)) (l' := cf ls) (fun i hi => ⟨rfl, by rw [HKT.out, cf_take _ _ _ hi]⟩)).yes (cov_sym HB1.out)
  have hA2 := cost_le (Pk.docSym (Pk.toks t.data.toList)) (cf ls) (docSym_le _ HTN.out) HB1.out.le 286
  obtain ⟨A, hA⟩ : ∃ A, A = Pk.cost 286 (Pk.docSym (Pk.toks t.data.toList)) (cf ls) := ⟨_, rfl⟩
  rw [← hA] at hA2 ⊢
  have HA := hide hA
  have HS5 := hide (HS4.out.fr hf5)
  have HD5 := hide (HD4.out.fr hf5)
  have HF5 := hide (HF4.out.trans hf5)
  have HROW5 := hide (HROW4.out.fr hf5)
  have c7 := (hf5.cell (p := ⟨rb, 7, none⟩) hrbl (no_no _)).trans c7
  have cg := (hf5.cell (p := ⟨g, 0, none⟩) hgl (no_no _)).trans cg
  have hrbl := Nat.lt_of_lt_of_le hrbl hf5.size
  have hgl := Nat.lt_of_lt_of_le hgl hf5.size
  clear hf5 k5 hA HS4 HD4 HF4 HROW4
  go_wp2_with fail
  refine (costF_any (bl := kb) (l := key.drop 286) w5 HD5.out (HROW5.out.drop (by first | (have := HKL.out; omega) | (rw [HKL.out]; rfl))) (by have := HKL.out; rw [List.length_drop]; omega) (fun i => by rw [HKD.out]; exact Nat.le_trans (cf_take_le _ _ _) (HB2.out.le i)) HTN.out).mono ?_
  intro ee w6 k6
  obtain ⟨rfl, hf6⟩ := (k6.same (c' := Pk.farCnt (Pk.toks t.data.toList)) (l' := cf lf) (fun i hi => ⟨rfl, by rw [HKD.out, cf_take _ _ _ hi]⟩)).yes (cov_far HB2.out)
  have hB2 := cost_le (Pk.farCnt (Pk.toks t.data.toList)) (cf lf) (farCnt_le _ HTN.out) HB2.out.le 30
  obtain ⟨B, hB⟩ : ∃ B, B = Pk.cost 30 (Pk.farCnt (Pk.toks t.data.toList)) (cf lf) := ⟨_, rfl⟩
  rw [← hB] at hB2 ⊢
  have HBB := hide hB
  have HS6 := hide (HS5.out.fr hf6)
  have HD6 := hide (HD5.out.fr hf6)
  have HF6 := hide (HF5.out.trans hf6)
  clear hf6 k6 hB HS5 HD5 HF5 HROW5 c7 cg hrbl hgl hk1
  by_cases hlen : len = 316
  · subst hlen
    go_wp2_with fail
    go_loopw [16] (fun iv wr => ∃ k : Nat, k ≤ 316 ∧ iv = .int .i64 k ∧ Hid (∀ j, j < k → 0 ≤ zs.getD j 0 ∧ zs.getD j 0 ≤ 15) ∧ Hid (wr = w6)) (fun iv _ => 316 - (intOf iv).toNat)
    case atStart => exact ⟨0, Nat.zero_le _, rfl, fun j hj => by omega, rfl⟩
    case round =>
      obtain ⟨k, hk, rfl, HK, hww⟩ := hrel
      obtain rfl := hww.out
      by_cases hlt : k < 316
      · have hki : (k : Int) < 316 := by omega
        obtain ⟨zb, zo, rfl, hzb, x1⟩ := HZ.out k hlt
        have x1 := (HF6.out.cell (p := ⟨zb, zo + k, none⟩) hzb (no_no _)).trans x1
        have HNX : Hid (0 ≤ zs.getD k 0 → zs.getD k 0 ≤ 15 → ∀ j, j < k + 1 → 0 ≤ zs.getD j 0 ∧ zs.getD j 0 ≤ 15) := fun h1 h2 j hj => by
          by_cases e : j = k
          · subst e; exact ⟨h1, h2⟩
          · exact HK.out j (by omega)
        generalize zs.getD k 0 = z at *
        by_cases hz0 : z < 0
        · go_wp2_with fail
          go_ret
          exact ⟨rfl, HF6.out⟩
        · by_cases hz1 : 15 < z
          · go_wp2_with fail
            go_ret
            exact ⟨rfl, HF6.out⟩
          · have HZ2 := hide (HNX.out (by omega) (by omega))
            go_wp2_with fail
            refine ⟨⟨k + 1, by omega, by go_num, HZ2.out, (by first | exact rfl | exact True.intro)⟩, by simp [intOf]; omega⟩
      · have hke : k = 316 := by omega
        subst hke
        obtain ⟨zb, zo, rfl, hzb, _⟩ := HZ.out 0 (by omega)
        have hcells : ∀ j, j < zs.length → wr.cell? ⟨zb, zo + j, none⟩ = some (.int .i64 (zs.getD j 0)) := fun j hj => by
          obtain ⟨b', o', e, hb', x⟩ := HZ.out j (by have := HZL.out; omega)
          injection e with e
          injection e with e1 e2
          subst e1
          subst e2
          exact (HF6.out.cell (p := ⟨zb, zo + j, none⟩) hb' (no_no _)).trans x
        obtain ⟨hrw, hln⟩ := nums_row (w := wr) (Nat.lt_of_lt_of_le hzb HF6.out.size) hcells (fun j hj => HK.out j (by have := HZL.out; omega))
        obtain ⟨nl, hnl⟩ : ∃ nl, nl = zs.map Int.toNat := ⟨_, rfl⟩
        rw [← hnl] at hrw hln
        have hnll : nl.length = 316 := by rw [hnl, List.length_map]; exact HZL.out
        obtain ⟨rt, hrt⟩ : ∃ rt, rt = Rf.right (nl.take 286) (nl.drop 286) := ⟨_, rfl⟩
        have HRQ : Hid (∀ q n1 c1 n2 c2, n1 = 286 → n2 = 30 → Calls Tryd.prog 29 #[.slice (some ⟨zb, zo, none⟩) n1 c1, .slice (some ⟨zb, zo + 286, none⟩) n2 c2] (wr.drewN q) fun e w' => e = .returned (.bool rt) ∧ w' = wr.drewN q) := by
          intro q n1 c1 n2 c2 e1 e2
          rw [hrt]
          have hr := hrw.fr ((Fr.refl No wr).drewN q)
          exact rright_any zb zb _ _ _ _ _ (hr.take (by omega) e1) (hr.drop (by rw [hnll]; omega)) (lens_takeB hln _) (lens_dropB hln _) (by rw [List.length_take]; omega) (by rw [List.length_take]; omega) (by rw [List.length_drop]; omega)
        have HRW := hide hrw
        have HLN := hide hln
        have HNLL := hide hnll
        have HRT := hide hrt
        have hk1 : (286 : Int) ≤ (cap : Int) := by omega
        clear hcells hrw hln hnl hnll hrt HK
        cases rt with
        | false =>
          go_upto_region 21 with fail
          go_quiet (first | (go_at_call 29; exact Calls.quiet_of_same (HRQ.out _ _ _ _ _ (by omega) (by omega))))
          go_wp2_with fail
          go_ret
          exact ⟨rfl, HF6.out.drewN _⟩
        | true =>
          go_upto_region 21 with fail
          go_quiet (first | (go_at_call 29; exact Calls.quiet_of_same (HRQ.out _ _ _ _ _ (by omega) (by omega))))
          have hfd : Fr No wr (wr.drewN nq) := (Fr.refl No wr).drewN nq
          have HSQ := hide (HS6.out.fr hfd)
          have HDQ := hide (HD6.out.fr hfd)
          have HRWQ := hide (HRW.out.fr hfd)
          have HFQ := hide (HF6.out.trans hfd)
          clear hfd HRQ
          generalize wr.drewN nq = wq at *
          go_wp2_with fail
          refine (costS_any (bl := zb) (l := nl.take 286) wq HSQ.out (HRWQ.out.take (by have := HNLL.out; omega) (by first | rfl | omega)) (by have := HNLL.out; rw [List.length_take]; omega) (lens_cf (lens_takeB HLN.out _)) HTN.out).mono ?_
          intro ee w7 k7
          obtain ⟨z, C, rfl, hC, hz, hf7⟩ := k7.some (docSym_le _ HTN.out) (lens_cf (lens_takeB HLN.out _))
          have HZ1 := hide hz
          have HD7 := hide (HDQ.out.fr hf7)
          have HRW7 := hide (HRWQ.out.fr hf7)
          have HF7 := hide (HFQ.out.trans hf7)
          clear hf7 k7 hz
          go_wp2_with fail
          refine (costF_any (bl := zb) (l := nl.drop 286) w7 HD7.out (HRW7.out.drop (by first | (have := HNLL.out; omega) | (rw [HNLL.out]; rfl))) (by have := HNLL.out; rw [List.length_drop]; omega) (lens_cf (lens_dropB HLN.out _)) HTN.out).mono ?_
          intro ee w8 k8
          obtain ⟨z2, G, rfl, hG2, hz2, hf8⟩ := k8.some (farCnt_le _ HTN.out) (lens_cf (lens_dropB HLN.out _))
          have HZ2 := hide hz2
          have HF8 := hide (HF7.out.trans hf8)
          clear hf8 k8 hz2
          cases z with
          | false =>
            go_wp2_with fail
            go_ret
            exact ⟨rfl, HF8.out⟩
          | true =>
            cases z2 with
            | false =>
              go_wp2_with fail
              go_ret
              exact ⟨rfl, HF8.out⟩
            | true =>
              obtain ⟨cv1, e1⟩ := HZ1.out rfl
              obtain ⟨cv2, e2⟩ := HZ2.out rfl
              have hbest := best_both HB1.out HB2.out (lens_takeB HLN.out _) (lens_dropB HLN.out _) HRT.out.symm cv1 cv2
              rw [← HA.out, ← HBB.out, ← e1, ← e2] at hbest
              have hle : (A : Int) + (B : Int) ≤ (C : Int) + (G : Int) := by omega
              have wAB : IntKind.i64.wrap ((A : Int) + (B : Int)) = (A : Int) + (B : Int) := wraps_i64 _ (by omega) (by omega)
              have wCG : IntKind.i64.wrap ((C : Int) + (G : Int)) = (C : Int) + (G : Int) := wraps_i64 _ (by omega) (by omega)
              clear e1 e2 cv1 cv2 hbest
              go_wp2_with fail
              go_ret
              exact ⟨rfl, HF8.out⟩
  · have hli : ((len : Int) == 316) = false := by rw [beq_eq_false_iff_ne]; omega
    clear hlen
    go_wp2_with fail
    go_ret
    exact ⟨rfl, HF6.out⟩
end Go.Proofs.YtjjjlilflbddoaaDoor
