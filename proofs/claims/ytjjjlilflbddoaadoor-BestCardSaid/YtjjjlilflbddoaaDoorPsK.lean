import Derived.Test.YtjjjlilflbddoaaDoorGPsH
/-
  Two sorted rows merged in place: merge_long.
-/
namespace Go.Proofs.YtjjjlilflbddoaaDoor
open Go.RowKit Pm

set_option maxRecDepth 100000 in
set_option maxHeartbeats 12800000 in
theorem merge_long (sz g n cap N a m b mid : Nat) (A P Q B : List El) (w : World) (IH : Hid (MergeOk sz)) (hsz : P.length + Q.length ≤ sz + 1) (h : RwN w g (A ++ P ++ Q ++ B) N) (hn : (A ++ P ++ Q ++ B).length = n) (hn2 : n ≤ 100000) (hP : Sd P) (hQ : Sd Q) (hp1 : 2 ≤ P.length) (hq1 : 2 ≤ Q.length) (ha : A.length = a) (hm : a + P.length = m) (hb : m + Q.length = b) (hmid : mid = (a + b) / 2) (hk : mid < m) :
    Calls Tryd.prog 151 #[.slice (some ⟨g, 0, none⟩) n cap, .int .i64 a, .int .i64 m, .int .i64 b, cmpV] w fun e w' => e = .returned (.tuple #[]) ∧ RwN w' g (A ++ mrg P Q ++ B) N ∧ Fr (One g) w w' := by
  have hbn : b ≤ n := by rw [← hn]; simp; omega
  obtain ⟨pl, hpl⟩ : ∃ pl, pl = P.length := ⟨_, rfl⟩
  obtain ⟨ql, hql⟩ : ∃ ql, ql = Q.length := ⟨_, rfl⟩
  have hma0 : (m : Int) - (a : Int) = (pl : Int) := by omega
  have hbm0 : (b : Int) - (m : Int) = (ql : Int) := by omega
  have hma1 : ((pl : Int) == 1) = false := by simp; omega
  have hbm1 : ((ql : Int) == 1) = false := by simp; omega
  have wpl : IntKind.i64.wrap (pl : Int) = pl := wraps_i64 _ (by omega) (by omega)
  have wql : IntKind.i64.wrap (ql : Int) = ql := wraps_i64 _ (by omega) (by omega)
  obtain ⟨ab, hab⟩ : ∃ ab, ab = a + b := ⟨_, rfl⟩
  have habi : (a : Int) + (b : Int) = (ab : Int) := by omega
  have wab : IntKind.i64.wrap (ab : Int) = ab := wraps_i64 _ (by omega) (by omega)
  have wab2 : IntKind.u64.wrap (ab : Int) = ab := by rw [IntKind.wrap_u64]; omega
  have hmidi : (ab : Int) / 2 = (mid : Int) := by omega
  have wmid : IntKind.i64.wrap (mid : Int) = mid := wraps_i64 _ (by omega) (by omega)
  obtain ⟨nn, hnn⟩ : ∃ nn, nn = mid + m := ⟨_, rfl⟩
  have hnni : (mid : Int) + (m : Int) = (nn : Int) := by omega
  have wnn : IntKind.i64.wrap (nn : Int) = nn := wraps_i64 _ (by omega) (by omega)
  obtain ⟨p, hp⟩ : ∃ p, p = nn - 1 := ⟨_, rfl⟩
  have hpi : (nn : Int) - 1 = (p : Int) := by omega
  have wp : IntKind.i64.wrap (p : Int) = p := wraps_i64 _ (by omega) (by omega)
  obtain ⟨lo, hlo⟩ : ∃ lo, lo = nn - b := ⟨_, rfl⟩
  obtain ⟨hi, hhi⟩ : ∃ hi, hi = mid := ⟨_, rfl⟩
  have hlod : (nn : Int) - (b : Int) = (lo : Int) := by omega
  have wlo : IntKind.i64.wrap (lo : Int) = lo := wraps_i64 _ (by omega) (by omega)
  have hki : (mid : Int) < (m : Int) := by omega
  have HMono : Hid (MonoM (key A P Q B) (nn - 1) lo hi) := mono_key hP hQ ha hm hb (by omega) (by omega) (by omega) (by omega)
  have HLH := hide (show lo ≤ hi by omega)
  have HSP := hide (show ∀ s, LookM (key A P Q B) (nn - 1) lo hi s s → ∃ P1 P2 Q1 Q2, P = P1 ++ P2 ∧ Q = Q1 ++ Q2 ∧ P1.length = s - a ∧ P2.length = m - s ∧ Q1.length = nn - s - m ∧ Q2.length = b - (nn - s) ∧ Sd P1 ∧ Sd P2 ∧ Sd Q1 ∧ Sd Q2 ∧ mrg P Q = mrg P1 Q1 ++ mrg P2 Q2 from fun s hs => look_split hs hP hQ ha hm hb (by omega) (by omega) (by omega) (by omega) (by omega) (by omega))
  have HB := hide (show (∀ c, lo ≤ c → c < hi → c < n ∧ m ≤ p - c ∧ p - c < n ∧ c ≤ p) ∧ (∀ s, lo ≤ s → s ≤ hi → a ≤ s ∧ s ≤ m ∧ m ≤ nn - s ∧ nn - s ≤ b ∧ s ≤ nn) ∧ a < mid ∧ mid < b ∧ nn = mid + m from ⟨fun c h1 h2 => by omega, fun s h1 h2 => by omega, by omega, by omega, by omega⟩)
  have H := hide h
  have HN := hide hn
  have HA := hide ha
  have HP' := hide hp
  have HLO := hide hlo
  have HHI := hide hhi
  have HSZ := hide (And.intro hsz (show pl + ql = P.length + Q.length ∧ b = a + (P.length + Q.length) by omega))
  clear h hn ha hm hb hP hQ hp1 hq1 hpl hql hab hnn hp hmid hk hsz hlo hhi
  unfold cmpV
  go_enter Tryd.func151, Tryd.ntmps151
  go_wp2
  go_loopw [20, 21] (fun sv rv wr => ∃ s r : Nat, sv = .int .i64 s ∧ rv = .int .i64 r ∧ Hid (LookM (key A P Q B) (nn - 1) lo hi s r) ∧ Hid (Fr No w wr)) (fun sv rv _ => (intOf rv).toNat - (intOf sv).toNat)
  case atStart => exact ⟨lo, hi, by rfl, by rw [HHI.out], lookM_start _ _ _ _ HLH.out, Fr.refl _ _⟩
  case round =>
    obtain ⟨s, r, rfl, rfl, HL, HF⟩ := hrel
    have hls := HL.out.1
    have hsr := HL.out.2.1
    have hrh := HL.out.2.2.1
    by_cases hlt : s < r
    · obtain ⟨sr, hsre⟩ : ∃ sr, sr = s + r := ⟨_, rfl⟩
      obtain ⟨c0, hc0⟩ : ∃ c0, c0 = sr / 2 := ⟨_, rfl⟩
      have hcs : s ≤ c0 ∧ c0 < r := by omega
      have hbb := HB.out.1 c0 (by omega) (by omega)
      obtain ⟨pc, hpc⟩ : ∃ pc, pc = p - c0 := ⟨_, rfl⟩
      have hsri : (s : Int) + (r : Int) = (sr : Int) := by omega
      have hrn : r ≤ n + 1 := by have := HB.out.1 (r - 1) (by omega) (by omega); omega
      have wsr : IntKind.i64.wrap (sr : Int) = sr := wraps_i64 _ (by omega) (by omega)
      have wsr2 : IntKind.u64.wrap (sr : Int) = sr := by rw [IntKind.wrap_u64]; omega
      have hc0i : (sr : Int) / 2 = (c0 : Int) := by omega
      have wc0 : IntKind.i64.wrap (c0 : Int) = c0 := wraps_i64 _ (by omega) (by omega)
      have hpci : (p : Int) - (c0 : Int) = (pc : Int) := by omega
      have wpc : IntKind.i64.wrap (pc : Int) = pc := wraps_i64 _ (by omega) (by omega)
      have hlti : (s : Int) < (r : Int) := by omega
      have hcn : (c0 : Int) < (n : Int) := by omega
      have hpcn : (pc : Int) < (n : Int) := by omega
      have HR := hide (H.out.fr HF.out (no_no _))
      obtain ⟨cur, hr, hcN⟩ := HR.out
      have hxl := HN.out
      have hr2 := hr.rd2 (i := pc) (j := c0) (by omega) (by omega)
      have HGL := hide hr.lt
      have HR2 := hide hr2
      obtain ⟨u, hu⟩ : ∃ u, u = (A ++ P ++ Q ++ B).getD pc ed := ⟨_, rfl⟩
      obtain ⟨v, hv⟩ : ∃ v, v = (A ++ P ++ Q ++ B).getD c0 ed := ⟨_, rfl⟩
      rw [← hu, ← hv] at HR2
      have HU : Hid (u.1 = key A P Q B (nn - 1 - c0) ∧ v.1 = key A P Q B c0) := ⟨by rw [hu, hpc, HP'.out]; rfl, by rw [hv]; rfl⟩
      have HC0 := hide hcs
      clear hsre hc0 hcs hbb hpc hr hcN hxl hr2 hu hv
      obtain ⟨c, hc, HC⟩ : ∃ c : Int, decide (c < 0) = decide (u.1 < v.1) ∧ Hid (∀ w, Calls Tryd.prog 114 #[.agg #[.int .i64 u.1, .slice u.2.1.1 u.2.1.2.1 u.2.1.2.2], .agg #[.int .i64 v.1, .slice v.2.1.1 v.2.1.2.1 v.2.1.2.2]] w fun e w' => e = .returned (.int .i64 c) ∧ Fr No w w') := less_any u.1 v.1 _ _
      obtain ⟨t, ht⟩ : ∃ t : Bool, t = decide (u.1 < v.1) := ⟨_, rfl⟩
      rw [← ht] at hc
      have HT := hide ht
      clear ht
      obtain ⟨u1, ⟨u2, u4, u5⟩, u3⟩ := u
      obtain ⟨v1, ⟨v2, v4, v5⟩, v3⟩ := v
      simp only [] at HC HT
      go_upto_region 35 with fail
      refine wp_region_held (S := fun W => (W.cell? ⟨g, pc * 2, none⟩ = some (.int .i64 (u1 : Nat)) ∧ W.cell? ⟨g, pc * 2 + 1, none⟩ = some (.slice u2 u4 u5)) ∧ (W.cell? ⟨g, c0 * 2, none⟩ = some (.int .i64 (v1 : Nat)) ∧ W.cell? ⟨g, c0 * 2 + 1, none⟩ = some (.slice v2 v4 v5))) (by kernel_rfl) ?_
      change wpAnyH _ _ _ _ _ _ _ _ (World.drew _)
      have hS0 : ((World.drew wr).cell? ⟨g, pc * 2, none⟩ = some (.int .i64 (u1 : Nat)) ∧ (World.drew wr).cell? ⟨g, pc * 2 + 1, none⟩ = some (.slice u2 u4 u5)) ∧ ((World.drew wr).cell? ⟨g, c0 * 2, none⟩ = some (.int .i64 (v1 : Nat)) ∧ (World.drew wr).cell? ⟨g, c0 * 2 + 1, none⟩ = some (.slice v2 v4 v5)) := HR2.out
      refine wpAnyH_take (i := 0) (v := .func (.func 114) #[] #[]) rfl (by kernel_rfl) (by kernel_rfl) (by kernel_rfl) (fun _ _ _ h => h) (Or.inl ⟨by kernel_rfl, by intro w _; go_simp⟩) hS0 ?_
      refine wpAnyH_take (i := 1) (v := .slice (some ⟨g, 0, none⟩) n cap) rfl (by kernel_rfl) (by kernel_rfl) (by kernel_rfl) (fun _ _ _ h => h) (Or.inl ⟨by kernel_rfl, by intro w _; go_simp⟩) hS0 ?_
      refine wpAnyH_take (i := 2) (v := .int .i64 (p : Nat)) rfl (by kernel_rfl) (by kernel_rfl) (by kernel_rfl) (fun _ _ _ h => h) (Or.inl ⟨by kernel_rfl, by intro w _; go_simp⟩) hS0 ?_
      refine wpAnyH_take (i := 3) (v := .int .i64 (c0 : Nat)) rfl (by kernel_rfl) (by kernel_rfl) (by kernel_rfl) (fun _ _ _ h => h) (Or.inl ⟨by kernel_rfl, by intro w _; go_simp⟩) hS0 ?_
      refine wpAnyH_take (i := 4) (v := .int .i64 (pc : Nat)) rfl (by kernel_rfl) (by kernel_rfl) (by kernel_rfl) (fun _ _ _ h => h) (Or.inl ⟨by kernel_rfl, by intro w _; go_simp⟩) hS0 ?_
      refine wpAnyH_take (i := 5) (v := .pointer (some ⟨g, pc * 2, none⟩)) rfl (by kernel_rfl) (by kernel_rfl) (by kernel_rfl) (fun _ _ _ h => h) (Or.inl ⟨by kernel_rfl, by intro w _; go_simp⟩) hS0 ?_
      refine wpAnyH_take (i := 6) (v := .agg #[.int .i64 (u1 : Nat), .slice u2 u4 u5]) rfl (by kernel_rfl) (by kernel_rfl) (by kernel_rfl) (fun _ _ _ h => h) (Or.inl ⟨by kernel_rfl, by intro w h; have h := h.1; have h0 := h.1; have h1 := h.2; go_simp⟩) hS0 ?_
      refine wpAnyH_take (i := 7) (v := .slice (some ⟨g, 0, none⟩) n cap) rfl (by kernel_rfl) (by kernel_rfl) (by kernel_rfl) (fun _ _ _ h => h) (Or.inl ⟨by kernel_rfl, by intro w _; go_simp⟩) hS0 ?_
      refine wpAnyH_take (i := 8) (v := .int .i64 (c0 : Nat)) rfl (by kernel_rfl) (by kernel_rfl) (by kernel_rfl) (fun _ _ _ h => h) (Or.inl ⟨by kernel_rfl, by intro w _; go_simp⟩) hS0 ?_
      refine wpAnyH_take (i := 9) (v := .pointer (some ⟨g, c0 * 2, none⟩)) rfl (by kernel_rfl) (by kernel_rfl) (by kernel_rfl) (fun _ _ _ h => h) (Or.inl ⟨by kernel_rfl, by intro w _; go_simp⟩) hS0 ?_
      refine wpAnyH_take (i := 10) (v := .agg #[.int .i64 (v1 : Nat), .slice v2 v4 v5]) rfl (by kernel_rfl) (by kernel_rfl) (by kernel_rfl) (fun _ _ _ h => h) (Or.inl ⟨by kernel_rfl, by intro w h; have h := h.2; have h0 := h.1; have h1 := h.2; go_simp⟩) hS0 ?_
      refine wpAnyH_one (i := 11) (by kernel_rfl) rfl (by kernel_rfl) (fun K'' hK' => ?_)
      go_simp
      refine (HC.out _).mono ?_
      rintro e w2 ⟨rfl, hf2⟩
      have hf2 : Fr No wr w2 := (Fr.refl No wr).drew.trans hf2
      have hS0 : (w2.cell? ⟨g, pc * 2, none⟩ = some (.int .i64 (u1 : Nat)) ∧ w2.cell? ⟨g, pc * 2 + 1, none⟩ = some (.slice u2 u4 u5)) ∧ (w2.cell? ⟨g, c0 * 2, none⟩ = some (.int .i64 (v1 : Nat)) ∧ w2.cell? ⟨g, c0 * 2 + 1, none⟩ = some (.slice v2 v4 v5)) := HR2.out.fr HGL.out hf2
      refine hK' _ _ hS0 ?_
      clear hK' K''
      refine wpAnyH_take (i := 12) (v := .bool t) rfl (by kernel_rfl) (by kernel_rfl) (by kernel_rfl) (fun _ _ _ h => h) (Or.inl ⟨by kernel_rfl, by intro w _; go_simp⟩) hS0 ?_
      refine wpAnyH_take (i := 13) (v := .bool (!t)) rfl (by kernel_rfl) (by kernel_rfl) (by kernel_rfl) (fun _ _ _ h => h) (Or.inl ⟨by kernel_rfl, by intro w _; go_simp⟩) hS0 ?_
      refine wpAnyH_done (by kernel_rfl) ?_ _
      simp only [List.getElem_toArray, List.getElem_cons_succ, List.getElem_cons_zero]
      go_frame
      have HF2 := hide (HF.out.trans hf2)
      clear hf2 hS0
      cases t with
      | true =>
        have hxy : u1 < v1 := by have := HT.out; simpa using this.symm
        have HLN : Hid (LookM (key A P Q B) (nn - 1) lo hi s c0) := lookM_down HL.out HMono.out HC0.out.1 HC0.out.2 (by rw [← HU.out.1, ← HU.out.2]; exact hxy)
        go_wp2_with fail
        exact ⟨⟨s, c0, rfl, rfl, HLN.out, HF2.out⟩, by have := HC0.out; simp [intOf]; omega⟩
      | false =>
        have hxy : ¬ u1 < v1 := by have := HT.out; simpa using this.symm
        have HLN : Hid (LookM (key A P Q B) (nn - 1) lo hi (c0 + 1) r) := lookM_up HL.out HMono.out HC0.out.1 HC0.out.2 (by rw [← HU.out.1, ← HU.out.2]; exact hxy)
        go_wp2_with fail
        exact ⟨⟨c0 + 1, r, by go_num, rfl, HLN.out, HF2.out⟩, by have := HC0.out; simp [intOf]; omega⟩
    · have hrs : r = s := by omega
      subst hrs
      obtain ⟨P1, P2, Q1, Q2, eP, eQ, n1, n2, n3, n4, q1, q2, q3, q4, hmr⟩ := HSP.out r HL.out
      obtain ⟨x1, x2, x3, x4, x5⟩ := HB.out.2.1 r hls hrh
      obtain ⟨x6, x7, x8⟩ := HB.out.2.2
      obtain ⟨s, hs⟩ : ∃ s, s = r := ⟨_, rfl⟩
      rw [← hs] at n1 n2 n3 n4 x1 x2 x3 x4 x5 ⊢
      obtain ⟨e, he⟩ : ∃ e, e = nn - s := ⟨_, rfl⟩
      rw [← he] at n3 n4 x3 x4
      have hei : (nn : Int) - (s : Int) = (e : Int) := by omega
      have we : IntKind.i64.wrap (e : Int) = e := wraps_i64 _ (by omega) (by omega)
      have hz := HSZ.out
      subst eP
      subst eQ
      have HLS : Hid (P1.length = s - a ∧ P2.length = m - s ∧ Q1.length = e - m ∧ Q2.length = b - e ∧ a ≤ s ∧ s ≤ m ∧ m ≤ e ∧ e ≤ b ∧ a < mid ∧ mid < b ∧ e + s = mid + m ∧ b ≤ a + (sz + 1)) := ⟨n1, n2, n3, n4, x1, x2, x3, x4, x6, x7, by omega, by omega⟩
      have HSD := hide (And.intro q1 (And.intro q2 (And.intro q3 q4)))
      have HMR := hide hmr
      have HLen : Hid (A.length + P1.length + P2.length + Q1.length + Q2.length + B.length = n) := by have := HN.out; unfold Hid; simp at this ⊢; omega
      have HR0 : Hid (RwN wr g (A ++ P1 ++ P2 ++ Q1 ++ Q2 ++ B) N ∧ Fr (One g) w wr) := ⟨(H.out.fr HF.out (no_no _)).same (by simp), HF.out.of_no⟩
      have hlsr : ¬ (s : Int) < (s : Int) := by omega
      have t1 := HLS.out
      clear hmr q1 q2 q3 q4 hz he hs H HN HSZ HF HL HB HSP HMono hls hsr hrh hlt
      obtain ⟨n1, n2, n3, n4, x1, x2, x3, x4, x6, x7, x9, x10⟩ := t1
      by_cases b1 : 0 < P1.length
      · by_cases b2 : 0 < Q1.length
        · by_cases b3 : 0 < P2.length
          · by_cases b4 : 0 < Q2.length
            · try (exfalso; omega)
              all_goals (
                have d1 : (s : Int) < (m : Int) := by omega
                have d2 : (m : Int) < (e : Int) := by omega
                have d3 : (a : Int) < (s : Int) := by omega
                have d4 : (s : Int) < (mid : Int) := by omega
                have d5 : (mid : Int) < (e : Int) := by omega
                have d6 : (e : Int) < (b : Int) := by omega
                have HZ : Hid (True) := trivial
                clear n1 n2 n3 n4 x1 x2 x3 x4 x5 x6 x7 x8 x9 x10 b1 b2 b3 b4
                go_wp2_with fail
                refine (rotate_any g n cap N s m e (A ++ P1) P2 Q1 (Q2 ++ B) _ wr (HR0.out.1.same (by simp)) (by have := HLen.out; simp at this ⊢; omega) hn2 (by have := HLS.out; omega) (by have := HLS.out; omega) (by have := HLS.out; have := HA.out; simp; omega) (by have := HLS.out; have := HA.out; simp; omega) (by have := HLS.out; have := HA.out; simp; omega)).mono ?_
                rintro ee wx1 ⟨rfl, hx1, hx2⟩
                have HR1 : Hid (RwN wx1 g (A ++ P1 ++ Q1 ++ P2 ++ Q2 ++ B) N ∧ Fr (One g) w wx1) := ⟨hx1.same (by simp), HR0.out.2.trans hx2⟩
                clear hx1 hx2 HR0
                go_wp2_with fail
                refine (IH.out g n cap N a s mid A P1 Q1 (P2 ++ Q2 ++ B) wx1 (by have := HLS.out; omega) (HR1.out.1.same (by simp)) (by have := HLen.out; simp at this ⊢; omega) hn2 HSD.out.1 HSD.out.2.2.1 (by have := HLS.out; omega) (by have := HLS.out; omega) HA.out (by have := HLS.out; omega) (by have := HLS.out; omega)).mono ?_
                rintro ee wx2 ⟨rfl, hx1, hx2⟩
                have HR2 : Hid (RwN wx2 g (A ++ mrg P1 Q1 ++ P2 ++ Q2 ++ B) N ∧ Fr (One g) w wx2) := ⟨hx1.same (by simp), HR1.out.2.trans hx2⟩
                clear hx1 hx2 HR1
                go_wp2_with fail
                refine (IH.out g n cap N mid e b (A ++ mrg P1 Q1) P2 Q2 B wx2 (by have := HLS.out; omega) (HR2.out.1.same (by simp)) (by have := HLen.out; simp [mrg_len] at this ⊢; omega) hn2 HSD.out.2.1 HSD.out.2.2.2 (by have := HLS.out; omega) (by have := HLS.out; omega) (by have := HLS.out; have := HA.out; simp [mrg_len]; omega) (by have := HLS.out; omega) (by have := HLS.out; omega)).mono ?_
                rintro ee wx3 ⟨rfl, hx1, hx2⟩
                have HR3 : Hid (RwN wx3 g (A ++ (mrg P1 Q1 ++ mrg P2 Q2) ++ B) N ∧ Fr (One g) w wx3) := ⟨hx1.same (by simp), HR2.out.2.trans hx2⟩
                clear hx1 hx2 HR2
                go_wp2
                go_end0
                refine ⟨rfl, HR3.out.1.same ?_, HR3.out.2⟩
                rw [← HMR.out]
                try simp)
            · try (exfalso; omega)
              all_goals (
                have hQ2 : Q2 = [] := List.eq_nil_of_length_eq_zero (by omega)
                have d1 : (s : Int) < (m : Int) := by omega
                have d2 : (m : Int) < (e : Int) := by omega
                have d3 : (a : Int) < (s : Int) := by omega
                have d4 : (s : Int) < (mid : Int) := by omega
                have d5 : (mid : Int) < (e : Int) := by omega
                have d6 : ¬ (e : Int) < (b : Int) := by omega
                have HZ : Hid (True ∧ Q2 = []) := ⟨trivial, hQ2⟩
                clear n1 n2 n3 n4 x1 x2 x3 x4 x5 x6 x7 x8 x9 x10 b1 b2 b3 b4 hQ2
                go_wp2_with fail
                refine (rotate_any g n cap N s m e (A ++ P1) P2 Q1 (Q2 ++ B) _ wr (HR0.out.1.same (by simp)) (by have := HLen.out; simp at this ⊢; omega) hn2 (by have := HLS.out; omega) (by have := HLS.out; omega) (by have := HLS.out; have := HA.out; simp; omega) (by have := HLS.out; have := HA.out; simp; omega) (by have := HLS.out; have := HA.out; simp; omega)).mono ?_
                rintro ee wx1 ⟨rfl, hx1, hx2⟩
                have HR1 : Hid (RwN wx1 g (A ++ P1 ++ Q1 ++ P2 ++ Q2 ++ B) N ∧ Fr (One g) w wx1) := ⟨hx1.same (by simp), HR0.out.2.trans hx2⟩
                clear hx1 hx2 HR0
                go_wp2_with fail
                refine (IH.out g n cap N a s mid A P1 Q1 (P2 ++ Q2 ++ B) wx1 (by have := HLS.out; omega) (HR1.out.1.same (by simp)) (by have := HLen.out; simp at this ⊢; omega) hn2 HSD.out.1 HSD.out.2.2.1 (by have := HLS.out; omega) (by have := HLS.out; omega) HA.out (by have := HLS.out; omega) (by have := HLS.out; omega)).mono ?_
                rintro ee wx2 ⟨rfl, hx1, hx2⟩
                have HR2 : Hid (RwN wx2 g (A ++ mrg P1 Q1 ++ P2 ++ Q2 ++ B) N ∧ Fr (One g) w wx2) := ⟨hx1.same (by simp), HR1.out.2.trans hx2⟩
                clear hx1 hx2 HR1
                have HR3 : Hid (RwN wx2 g (A ++ (mrg P1 Q1 ++ mrg P2 Q2) ++ B) N ∧ Fr (One g) w wx2) := ⟨HR2.out.1.same (by obtain ⟨_, rfl⟩ := HZ.out; simp [mrg_nil]), HR2.out.2⟩
                clear HR2
                go_wp2
                go_end0
                refine ⟨rfl, HR3.out.1.same ?_, HR3.out.2⟩
                rw [← HMR.out]
                try simp)
          · have b4 : 0 < Q2.length := by have := HLS.out; omega
            try (exfalso; omega)
            all_goals (
              have hP2 : P2 = [] := List.eq_nil_of_length_eq_zero (by omega)
              have d1 : ¬ (s : Int) < (m : Int) := by omega
              have d2 : (m : Int) < (e : Int) := by omega
              have d3 : (a : Int) < (s : Int) := by omega
              have d4 : (s : Int) < (mid : Int) := by omega
              have d5 : ¬ (mid : Int) < (e : Int) := by omega
              have d6 : (e : Int) < (b : Int) := by omega
              have HZ : Hid (True ∧ P2 = []) := ⟨trivial, hP2⟩
              clear n1 n2 n3 n4 x1 x2 x3 x4 x5 x6 x7 x8 x9 x10 b1 b2 b3 b4 hP2
              have HR1 : Hid (RwN wr g (A ++ P1 ++ Q1 ++ P2 ++ Q2 ++ B) N ∧ Fr (One g) w wr) := ⟨HR0.out.1.same (by obtain ⟨_, rfl⟩ := HZ.out; simp), HR0.out.2⟩
              clear HR0
              go_wp2_with fail
              refine (IH.out g n cap N a s mid A P1 Q1 (P2 ++ Q2 ++ B) wr (by have := HLS.out; omega) (HR1.out.1.same (by simp)) (by have := HLen.out; simp at this ⊢; omega) hn2 HSD.out.1 HSD.out.2.2.1 (by have := HLS.out; omega) (by have := HLS.out; omega) HA.out (by have := HLS.out; omega) (by have := HLS.out; omega)).mono ?_
              rintro ee wx2 ⟨rfl, hx1, hx2⟩
              have HR2 : Hid (RwN wx2 g (A ++ mrg P1 Q1 ++ P2 ++ Q2 ++ B) N ∧ Fr (One g) w wx2) := ⟨hx1.same (by simp), HR1.out.2.trans hx2⟩
              clear hx1 hx2 HR1
              have HR3 : Hid (RwN wx2 g (A ++ (mrg P1 Q1 ++ mrg P2 Q2) ++ B) N ∧ Fr (One g) w wx2) := ⟨HR2.out.1.same (by obtain ⟨_, rfl⟩ := HZ.out; simp [mrg_nil, nil_mrg]), HR2.out.2⟩
              clear HR2
              go_wp2
              go_end0
              refine ⟨rfl, HR3.out.1.same ?_, HR3.out.2⟩
              rw [← HMR.out]
              try simp)
        · by_cases b3 : 0 < P2.length
          · by_cases b4 : 0 < Q2.length
            · try (exfalso; omega)
              all_goals (
                have hQ1 : Q1 = [] := List.eq_nil_of_length_eq_zero (by omega)
                have d1 : (s : Int) < (m : Int) := by omega
                have d2 : ¬ (m : Int) < (e : Int) := by omega
                have d3 : (a : Int) < (s : Int) := by omega
                have d4 : ¬ (s : Int) < (mid : Int) := by omega
                have d5 : (mid : Int) < (e : Int) := by omega
                have d6 : (e : Int) < (b : Int) := by omega
                have HZ : Hid (True ∧ Q1 = []) := ⟨trivial, hQ1⟩
                clear n1 n2 n3 n4 x1 x2 x3 x4 x5 x6 x7 x8 x9 x10 b1 b2 b3 b4 hQ1
                have HR1 : Hid (RwN wr g (A ++ P1 ++ Q1 ++ P2 ++ Q2 ++ B) N ∧ Fr (One g) w wr) := ⟨HR0.out.1.same (by obtain ⟨_, rfl⟩ := HZ.out; simp), HR0.out.2⟩
                clear HR0
                have HR2 : Hid (RwN wr g (A ++ mrg P1 Q1 ++ P2 ++ Q2 ++ B) N ∧ Fr (One g) w wr) := ⟨HR1.out.1.same (by obtain ⟨_, rfl⟩ := HZ.out; simp [mrg_nil]), HR1.out.2⟩
                clear HR1
                go_wp2_with fail
                refine (IH.out g n cap N mid e b (A ++ mrg P1 Q1) P2 Q2 B wr (by have := HLS.out; omega) (HR2.out.1.same (by simp)) (by have := HLen.out; simp [mrg_len] at this ⊢; omega) hn2 HSD.out.2.1 HSD.out.2.2.2 (by have := HLS.out; omega) (by have := HLS.out; omega) (by have := HLS.out; have := HA.out; simp [mrg_len]; omega) (by have := HLS.out; omega) (by have := HLS.out; omega)).mono ?_
                rintro ee wx3 ⟨rfl, hx1, hx2⟩
                have HR3 : Hid (RwN wx3 g (A ++ (mrg P1 Q1 ++ mrg P2 Q2) ++ B) N ∧ Fr (One g) w wx3) := ⟨hx1.same (by simp), HR2.out.2.trans hx2⟩
                clear hx1 hx2 HR2
                go_wp2
                go_end0
                refine ⟨rfl, HR3.out.1.same ?_, HR3.out.2⟩
                rw [← HMR.out]
                try simp)
            · try (exfalso; omega)
              all_goals (
                have hQ1 : Q1 = [] := List.eq_nil_of_length_eq_zero (by omega)
                have hQ2 : Q2 = [] := List.eq_nil_of_length_eq_zero (by omega)
                have d1 : (s : Int) < (m : Int) := by omega
                have d2 : ¬ (m : Int) < (e : Int) := by omega
                have d3 : (a : Int) < (s : Int) := by omega
                have d4 : ¬ (s : Int) < (mid : Int) := by omega
                have d5 : (mid : Int) < (e : Int) := by omega
                have d6 : ¬ (e : Int) < (b : Int) := by omega
                have HZ : Hid (True ∧ Q1 = [] ∧ Q2 = []) := ⟨trivial, hQ1, hQ2⟩
                clear n1 n2 n3 n4 x1 x2 x3 x4 x5 x6 x7 x8 x9 x10 b1 b2 b3 b4 hQ1 hQ2
                have HR1 : Hid (RwN wr g (A ++ P1 ++ Q1 ++ P2 ++ Q2 ++ B) N ∧ Fr (One g) w wr) := ⟨HR0.out.1.same (by obtain ⟨_, rfl, rfl⟩ := HZ.out; simp), HR0.out.2⟩
                clear HR0
                have HR2 : Hid (RwN wr g (A ++ mrg P1 Q1 ++ P2 ++ Q2 ++ B) N ∧ Fr (One g) w wr) := ⟨HR1.out.1.same (by obtain ⟨_, rfl, rfl⟩ := HZ.out; simp [mrg_nil]), HR1.out.2⟩
                clear HR1
                have HR3 : Hid (RwN wr g (A ++ (mrg P1 Q1 ++ mrg P2 Q2) ++ B) N ∧ Fr (One g) w wr) := ⟨HR2.out.1.same (by obtain ⟨_, rfl, rfl⟩ := HZ.out; simp [mrg_nil]), HR2.out.2⟩
                clear HR2
                go_wp2
                go_end0
                refine ⟨rfl, HR3.out.1.same ?_, HR3.out.2⟩
                rw [← HMR.out]
                try simp)
          · have b4 : 0 < Q2.length := by have := HLS.out; omega
            try (exfalso; omega)
            all_goals (
              have hP2 : P2 = [] := List.eq_nil_of_length_eq_zero (by omega)
              have hQ1 : Q1 = [] := List.eq_nil_of_length_eq_zero (by omega)
              have d1 : ¬ (s : Int) < (m : Int) := by omega
              have d2 : ¬ (m : Int) < (e : Int) := by omega
              have d3 : (a : Int) < (s : Int) := by omega
              have d4 : ¬ (s : Int) < (mid : Int) := by omega
              have d5 : ¬ (mid : Int) < (e : Int) := by omega
              have d6 : (e : Int) < (b : Int) := by omega
              have HZ : Hid (True ∧ P2 = [] ∧ Q1 = []) := ⟨trivial, hP2, hQ1⟩
              clear n1 n2 n3 n4 x1 x2 x3 x4 x5 x6 x7 x8 x9 x10 b1 b2 b3 b4 hP2 hQ1
              have HR1 : Hid (RwN wr g (A ++ P1 ++ Q1 ++ P2 ++ Q2 ++ B) N ∧ Fr (One g) w wr) := ⟨HR0.out.1.same (by obtain ⟨_, rfl, rfl⟩ := HZ.out; simp), HR0.out.2⟩
              clear HR0
              have HR2 : Hid (RwN wr g (A ++ mrg P1 Q1 ++ P2 ++ Q2 ++ B) N ∧ Fr (One g) w wr) := ⟨HR1.out.1.same (by obtain ⟨_, rfl, rfl⟩ := HZ.out; simp [mrg_nil, nil_mrg]), HR1.out.2⟩
              clear HR1
              have HR3 : Hid (RwN wr g (A ++ (mrg P1 Q1 ++ mrg P2 Q2) ++ B) N ∧ Fr (One g) w wr) := ⟨HR2.out.1.same (by obtain ⟨_, rfl, rfl⟩ := HZ.out; simp [mrg_nil, nil_mrg]), HR2.out.2⟩
              clear HR2
              go_wp2
              go_end0
              refine ⟨rfl, HR3.out.1.same ?_, HR3.out.2⟩
              rw [← HMR.out]
              try simp)
      · have b2 : 0 < Q1.length := by have := HLS.out; omega
        by_cases b3 : 0 < P2.length
        · by_cases b4 : 0 < Q2.length
          · try (exfalso; omega)
            all_goals (
              have hP1 : P1 = [] := List.eq_nil_of_length_eq_zero (by omega)
              have d1 : (s : Int) < (m : Int) := by omega
              have d2 : (m : Int) < (e : Int) := by omega
              have d3 : ¬ (a : Int) < (s : Int) := by omega
              have d4 : (s : Int) < (mid : Int) := by omega
              have d5 : (mid : Int) < (e : Int) := by omega
              have d6 : (e : Int) < (b : Int) := by omega
              have HZ : Hid (True ∧ P1 = []) := ⟨trivial, hP1⟩
              clear n1 n2 n3 n4 x1 x2 x3 x4 x5 x6 x7 x8 x9 x10 b1 b2 b3 b4 hP1
              go_wp2_with fail
              refine (rotate_any g n cap N s m e (A ++ P1) P2 Q1 (Q2 ++ B) _ wr (HR0.out.1.same (by simp)) (by have := HLen.out; simp at this ⊢; omega) hn2 (by have := HLS.out; omega) (by have := HLS.out; omega) (by have := HLS.out; have := HA.out; simp; omega) (by have := HLS.out; have := HA.out; simp; omega) (by have := HLS.out; have := HA.out; simp; omega)).mono ?_
              rintro ee wx1 ⟨rfl, hx1, hx2⟩
              have HR1 : Hid (RwN wx1 g (A ++ P1 ++ Q1 ++ P2 ++ Q2 ++ B) N ∧ Fr (One g) w wx1) := ⟨hx1.same (by simp), HR0.out.2.trans hx2⟩
              clear hx1 hx2 HR0
              have HR2 : Hid (RwN wx1 g (A ++ mrg P1 Q1 ++ P2 ++ Q2 ++ B) N ∧ Fr (One g) w wx1) := ⟨HR1.out.1.same (by obtain ⟨_, rfl⟩ := HZ.out; simp [mrg_nil, nil_mrg]), HR1.out.2⟩
              clear HR1
              go_wp2_with fail
              refine (IH.out g n cap N mid e b (A ++ mrg P1 Q1) P2 Q2 B wx1 (by have := HLS.out; omega) (HR2.out.1.same (by simp)) (by have := HLen.out; simp [mrg_len] at this ⊢; omega) hn2 HSD.out.2.1 HSD.out.2.2.2 (by have := HLS.out; omega) (by have := HLS.out; omega) (by have := HLS.out; have := HA.out; simp [mrg_len]; omega) (by have := HLS.out; omega) (by have := HLS.out; omega)).mono ?_
              rintro ee wx3 ⟨rfl, hx1, hx2⟩
              have HR3 : Hid (RwN wx3 g (A ++ (mrg P1 Q1 ++ mrg P2 Q2) ++ B) N ∧ Fr (One g) w wx3) := ⟨hx1.same (by simp), HR2.out.2.trans hx2⟩
              clear hx1 hx2 HR2
              go_wp2
              go_end0
              refine ⟨rfl, HR3.out.1.same ?_, HR3.out.2⟩
              rw [← HMR.out]
              try simp)
          · try (exfalso; omega)
            all_goals (
              have hP1 : P1 = [] := List.eq_nil_of_length_eq_zero (by omega)
              have hQ2 : Q2 = [] := List.eq_nil_of_length_eq_zero (by omega)
              have d1 : (s : Int) < (m : Int) := by omega
              have d2 : (m : Int) < (e : Int) := by omega
              have d3 : ¬ (a : Int) < (s : Int) := by omega
              have d4 : (s : Int) < (mid : Int) := by omega
              have d5 : (mid : Int) < (e : Int) := by omega
              have d6 : ¬ (e : Int) < (b : Int) := by omega
              have HZ : Hid (True ∧ P1 = [] ∧ Q2 = []) := ⟨trivial, hP1, hQ2⟩
              clear n1 n2 n3 n4 x1 x2 x3 x4 x5 x6 x7 x8 x9 x10 b1 b2 b3 b4 hP1 hQ2
              go_wp2_with fail
              refine (rotate_any g n cap N s m e (A ++ P1) P2 Q1 (Q2 ++ B) _ wr (HR0.out.1.same (by simp)) (by have := HLen.out; simp at this ⊢; omega) hn2 (by have := HLS.out; omega) (by have := HLS.out; omega) (by have := HLS.out; have := HA.out; simp; omega) (by have := HLS.out; have := HA.out; simp; omega) (by have := HLS.out; have := HA.out; simp; omega)).mono ?_
              rintro ee wx1 ⟨rfl, hx1, hx2⟩
              have HR1 : Hid (RwN wx1 g (A ++ P1 ++ Q1 ++ P2 ++ Q2 ++ B) N ∧ Fr (One g) w wx1) := ⟨hx1.same (by simp), HR0.out.2.trans hx2⟩
              clear hx1 hx2 HR0
              have HR2 : Hid (RwN wx1 g (A ++ mrg P1 Q1 ++ P2 ++ Q2 ++ B) N ∧ Fr (One g) w wx1) := ⟨HR1.out.1.same (by obtain ⟨_, rfl, rfl⟩ := HZ.out; simp [nil_mrg]), HR1.out.2⟩
              clear HR1
              have HR3 : Hid (RwN wx1 g (A ++ (mrg P1 Q1 ++ mrg P2 Q2) ++ B) N ∧ Fr (One g) w wx1) := ⟨HR2.out.1.same (by obtain ⟨_, rfl, rfl⟩ := HZ.out; simp [mrg_nil, nil_mrg]), HR2.out.2⟩
              clear HR2
              go_wp2
              go_end0
              refine ⟨rfl, HR3.out.1.same ?_, HR3.out.2⟩
              rw [← HMR.out]
              try simp)
        · have b4 : 0 < Q2.length := by have := HLS.out; omega
          try (exfalso; omega)
          all_goals (
            have hP1 : P1 = [] := List.eq_nil_of_length_eq_zero (by omega)
            have hP2 : P2 = [] := List.eq_nil_of_length_eq_zero (by omega)
            have d1 : ¬ (s : Int) < (m : Int) := by omega
            have d2 : (m : Int) < (e : Int) := by omega
            have d3 : ¬ (a : Int) < (s : Int) := by omega
            have d4 : (s : Int) < (mid : Int) := by omega
            have d5 : ¬ (mid : Int) < (e : Int) := by omega
            have d6 : (e : Int) < (b : Int) := by omega
            have HZ : Hid (True ∧ P1 = [] ∧ P2 = []) := ⟨trivial, hP1, hP2⟩
            clear n1 n2 n3 n4 x1 x2 x3 x4 x5 x6 x7 x8 x9 x10 b1 b2 b3 b4 hP1 hP2
            have HR1 : Hid (RwN wr g (A ++ P1 ++ Q1 ++ P2 ++ Q2 ++ B) N ∧ Fr (One g) w wr) := ⟨HR0.out.1.same (by obtain ⟨_, rfl, rfl⟩ := HZ.out; simp), HR0.out.2⟩
            clear HR0
            have HR2 : Hid (RwN wr g (A ++ mrg P1 Q1 ++ P2 ++ Q2 ++ B) N ∧ Fr (One g) w wr) := ⟨HR1.out.1.same (by obtain ⟨_, rfl, rfl⟩ := HZ.out; simp [mrg_nil, nil_mrg]), HR1.out.2⟩
            clear HR1
            have HR3 : Hid (RwN wr g (A ++ (mrg P1 Q1 ++ mrg P2 Q2) ++ B) N ∧ Fr (One g) w wr) := ⟨HR2.out.1.same (by obtain ⟨_, rfl, rfl⟩ := HZ.out; simp [mrg_nil, nil_mrg]), HR2.out.2⟩
            clear HR2
            go_wp2
            go_end0
            refine ⟨rfl, HR3.out.1.same ?_, HR3.out.2⟩
            rw [← HMR.out]
            try simp)
end Go.Proofs.YtjjjlilflbddoaaDoor
