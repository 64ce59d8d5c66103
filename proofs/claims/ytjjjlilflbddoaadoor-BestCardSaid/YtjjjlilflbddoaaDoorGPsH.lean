import Derived.Test.YtjjjlilflbddoaaDoorGPsF
/-
  Two sorted rows merged in place: the first has one.
-/
namespace Go.Proofs.YtjjjlilflbddoaaDoor
open Go.RowKit Pm

/-- What is known of the place that is looked for among Q. -/
def LookF (Q : List El) (x i j : Nat) : Prop := i ≤ j ∧ j ≤ Q.length ∧ (∀ k, k < i → (Q.getD k ed).1 < x) ∧ (∀ k, j ≤ k → k < Q.length → x ≤ (Q.getD k ed).1)
theorem lookF_up {Q : List El} {x i j h : Nat} (H : LookF Q x i j) (hQ : Sd Q) (h2 : h < j) (hl : (Q.getD h ed).1 < x) : LookF Q x (h + 1) j := by
  obtain ⟨a1, a2, a3, a4⟩ := H
  refine ⟨by omega, a2, fun k hk => ?_, a4⟩
  have := sd_get hQ (show k ≤ h by omega) (by omega)
  omega
theorem lookF_down {Q : List El} {x i j h : Nat} (H : LookF Q x i j) (hQ : Sd Q) (h1 : i ≤ h) (h2 : h < j) (hl : ¬ (Q.getD h ed).1 < x) : LookF Q x i h := by
  obtain ⟨a1, a2, a3, a4⟩ := H
  refine ⟨h1, by omega, a3, fun k hk hk2 => ?_⟩
  have := sd_get hQ hk hk2
  omega
theorem lookF_end {Q : List El} {x : El} {i : Nat} (H : LookF Q x.1 i i) (hQ : Sd Q) : mrg [x] Q = Q.take i ++ x :: Q.drop i := by
  obtain ⟨a1, a2, a3, a4⟩ := H
  have := mrg_first (x := x) (Q1 := Q.take i) (Q2 := Q.drop i) (by rw [List.take_append_drop]; exact hQ) (fun y hy => by
    obtain ⟨k, h1, h2, e⟩ := mem_take_get hy
    rw [← e]; exact a3 k h1) (fun y hy => by
    obtain ⟨k, h1, h2, e⟩ := mem_drop_get hy
    rw [← e]; exact a4 k h1 h2)
  rw [List.take_append_drop] at this
  exact this

set_option maxRecDepth 100000 in
set_option maxHeartbeats 3200000 in
theorem merge_one (g n cap N a m b : Nat) (A Q B : List El) (x : El) (w : World) (h : RwN w g (A ++ [x] ++ Q ++ B) N) (hn : (A ++ [x] ++ Q ++ B).length = n) (hn2 : n ≤ 100000) (hQ : Sd Q) (ha : A.length = a) (hm : a + 1 = m) (hb : m + Q.length = b) :
    Calls Tryd.prog 151 #[.slice (some ⟨g, 0, none⟩) n cap, .int .i64 a, .int .i64 m, .int .i64 b, cmpV] w fun e w' => e = .returned (.tuple #[]) ∧ RwN w' g (A ++ mrg [x] Q ++ B) N ∧ Fr (One g) w w' := by
  have hbn : b ≤ n := by rw [← hn]; simp; omega
  have hma : (m : Int) - (a : Int) = 1 := by omega
  have H := hide h
  have HN := hide hn
  have HA := hide ha
  have HM := hide hm
  have HB := hide hb
  have HQ := hide hQ
  have hmb : m ≤ b := by omega
  have ham : a < m := by omega
  clear h hn ha hm hb hQ
  unfold cmpV
  go_enter Tryd.func151, Tryd.ntmps151
  go_wp2
  go_loopw [10, 11] (fun iv jv wr => ∃ i j : Nat, iv = .int .i64 ((m + i : Nat) : Int) ∧ jv = .int .i64 ((m + j : Nat) : Int) ∧ Hid (LookF Q x.1 i j) ∧ Hid (Fr No w wr)) (fun iv jv _ => (intOf jv).toNat - (intOf iv).toNat)
  case atStart =>
    refine ⟨0, Q.length, rfl, by rw [HB.out], ⟨Nat.zero_le _, Nat.le_refl _, fun k hk => by omega, fun k hk hk2 => by omega⟩, Fr.refl _ _⟩
  case round =>
    obtain ⟨i, j, rfl, rfl, HL, HF⟩ := hrel
    obtain ⟨mi, hmi⟩ : ∃ mi, mi = m + i := ⟨_, rfl⟩
    obtain ⟨mj, hmj⟩ : ∃ mj, mj = m + j := ⟨_, rfl⟩
    rw [← hmi, ← hmj]
    have hij := HL.out.1
    have hjQ := HL.out.2.1
    have hmjb : mj ≤ b := by have := HB.out; omega
    by_cases hlt : i < j
    · obtain ⟨s, hs⟩ : ∃ s, s = mi + mj := ⟨_, rfl⟩
      obtain ⟨hh, hhe⟩ : ∃ hh, hh = s / 2 := ⟨_, rfl⟩
      obtain ⟨k, hk⟩ : ∃ k, hh = m + k := ⟨hh - m, by omega⟩
      have hki : i ≤ k ∧ k < j := by omega
      have hsi : (mi : Int) + (mj : Int) = (s : Int) := by omega
      have ws : IntKind.i64.wrap (s : Int) = s := wraps_i64 _ (by omega) (by omega)
      have ws2 : IntKind.u64.wrap (s : Int) = s := by rw [IntKind.wrap_u64]; omega
      have hs2 : (s : Int) / 2 = (hh : Int) := by omega
      have wh : IntKind.i64.wrap (hh : Int) = hh := wraps_i64 _ (by omega) (by omega)
      have hlti : (mi : Int) < (mj : Int) := by omega
      have hhn : (hh : Int) < (n : Int) := by omega
      have han : (a : Int) < (n : Int) := by omega
      have HR := hide (H.out.fr HF.out (no_no _))
      obtain ⟨cur, hr, hcN⟩ := HR.out
      have hxl := HN.out
      have hg1 := get_Q A [x] Q B k (by omega)
      rw [show A.length + [x].length + k = hh by have := HA.out; have := HM.out; simp; omega] at hg1
      have hg2 : (A ++ [x] ++ Q ++ B).getD a ed = x := by have := get_P A [x] Q B 0 (by simp); rw [Nat.add_zero, HA.out] at this; exact this
      have hr2 := hr.rd2 (i := hh) (j := a) (by omega) (by omega)
      rw [hg1, hg2] at hr2
      have HGL := hide hr.lt
      have HR2 := hide hr2
      have HX := hide (rfl : x = x)
      obtain ⟨u, hu⟩ : ∃ u, u = Q.getD k ed := ⟨_, rfl⟩
      obtain ⟨v, hv⟩ : ∃ v, v = x := ⟨_, rfl⟩
      rw [← hu] at HR2
      rw [← hv] at HR2
      have HU := hide (And.intro hu hv)
      have HK := hide (And.intro hki hk)
      have HS := hide (And.intro hs hhe)
      have HMI := hide (And.intro hmi hmj)
      clear hs hhe hmi hmj hu hv hk hki hr hcN hxl hg1 hg2 hr2 HX
      obtain ⟨c, hc, HC⟩ : ∃ c : Int, decide (c < 0) = decide (u.1 < v.1) ∧ Hid (∀ w, Calls Tryd.prog 114 #[.agg #[.int .i64 u.1, .slice u.2.1.1 u.2.1.2.1 u.2.1.2.2], .agg #[.int .i64 v.1, .slice v.2.1.1 v.2.1.2.1 v.2.1.2.2]] w fun e w' => e = .returned (.int .i64 c) ∧ Fr No w w') := less_any u.1 v.1 _ _
      obtain ⟨t, ht⟩ : ∃ t : Bool, t = decide (u.1 < v.1) := ⟨_, rfl⟩
      rw [← ht] at hc
      have HT := hide ht
      clear ht
      obtain ⟨u1, ⟨u2, u4, u5⟩, u3⟩ := u
      obtain ⟨v1, ⟨v2, v4, v5⟩, v3⟩ := v
      simp only [] at HC HT
      go_upto_region 5 with fail
      refine wp_region_held (S := fun W => (W.cell? ⟨g, hh * 2, none⟩ = some (.int .i64 (u1 : Nat)) ∧ W.cell? ⟨g, hh * 2 + 1, none⟩ = some (.slice u2 u4 u5)) ∧ (W.cell? ⟨g, a * 2, none⟩ = some (.int .i64 (v1 : Nat)) ∧ W.cell? ⟨g, a * 2 + 1, none⟩ = some (.slice v2 v4 v5))) (by kernel_rfl) ?_
      change wpAnyH _ _ _ _ _ _ _ _ (World.drew _)
      have hS0 : ((World.drew wr).cell? ⟨g, hh * 2, none⟩ = some (.int .i64 (u1 : Nat)) ∧ (World.drew wr).cell? ⟨g, hh * 2 + 1, none⟩ = some (.slice u2 u4 u5)) ∧ ((World.drew wr).cell? ⟨g, a * 2, none⟩ = some (.int .i64 (v1 : Nat)) ∧ (World.drew wr).cell? ⟨g, a * 2 + 1, none⟩ = some (.slice v2 v4 v5)) := HR2.out
      refine wpAnyH_take (i := 0) (v := .func (.func 114) #[] #[]) rfl (by kernel_rfl) (by kernel_rfl) (by kernel_rfl) (fun _ _ _ h => h) (Or.inl ⟨by kernel_rfl, by intro w _; go_simp⟩) hS0 ?_
      refine wpAnyH_take (i := 1) (v := .slice (some ⟨g, 0, none⟩) n cap) rfl (by kernel_rfl) (by kernel_rfl) (by kernel_rfl) (fun _ _ _ h => h) (Or.inl ⟨by kernel_rfl, by intro w _; go_simp⟩) hS0 ?_
      refine wpAnyH_take (i := 2) (v := .int .i64 (hh : Nat)) rfl (by kernel_rfl) (by kernel_rfl) (by kernel_rfl) (fun _ _ _ h => h) (Or.inl ⟨by kernel_rfl, by intro w _; go_simp⟩) hS0 ?_
      refine wpAnyH_take (i := 3) (v := .pointer (some ⟨g, hh * 2, none⟩)) rfl (by kernel_rfl) (by kernel_rfl) (by kernel_rfl) (fun _ _ _ h => h) (Or.inl ⟨by kernel_rfl, by intro w _; go_simp⟩) hS0 ?_
      refine wpAnyH_take (i := 4) (v := .agg #[.int .i64 (u1 : Nat), .slice u2 u4 u5]) rfl (by kernel_rfl) (by kernel_rfl) (by kernel_rfl) (fun _ _ _ h => h) (Or.inl ⟨by kernel_rfl, by intro w h; have h := h.1; have h0 := h.1; have h1 := h.2; go_simp⟩) hS0 ?_
      refine wpAnyH_take (i := 5) (v := .slice (some ⟨g, 0, none⟩) n cap) rfl (by kernel_rfl) (by kernel_rfl) (by kernel_rfl) (fun _ _ _ h => h) (Or.inl ⟨by kernel_rfl, by intro w _; go_simp⟩) hS0 ?_
      refine wpAnyH_take (i := 6) (v := .int .i64 (a : Nat)) rfl (by kernel_rfl) (by kernel_rfl) (by kernel_rfl) (fun _ _ _ h => h) (Or.inl ⟨by kernel_rfl, by intro w _; go_simp⟩) hS0 ?_
      refine wpAnyH_take (i := 7) (v := .pointer (some ⟨g, a * 2, none⟩)) rfl (by kernel_rfl) (by kernel_rfl) (by kernel_rfl) (fun _ _ _ h => h) (Or.inl ⟨by kernel_rfl, by intro w _; go_simp⟩) hS0 ?_
      refine wpAnyH_take (i := 8) (v := .agg #[.int .i64 (v1 : Nat), .slice v2 v4 v5]) rfl (by kernel_rfl) (by kernel_rfl) (by kernel_rfl) (fun _ _ _ h => h) (Or.inl ⟨by kernel_rfl, by intro w h; have h := h.2; have h0 := h.1; have h1 := h.2; go_simp⟩) hS0 ?_
      refine wpAnyH_one (i := 9) (by kernel_rfl) rfl (by kernel_rfl) (fun K'' hK' => ?_)
      go_simp
      refine (HC.out _).mono ?_
      rintro e w2 ⟨rfl, hf2⟩
      have hf2 : Fr No wr w2 := (Fr.refl No wr).drew.trans hf2
      have hS0 : (w2.cell? ⟨g, hh * 2, none⟩ = some (.int .i64 (u1 : Nat)) ∧ w2.cell? ⟨g, hh * 2 + 1, none⟩ = some (.slice u2 u4 u5)) ∧ (w2.cell? ⟨g, a * 2, none⟩ = some (.int .i64 (v1 : Nat)) ∧ w2.cell? ⟨g, a * 2 + 1, none⟩ = some (.slice v2 v4 v5)) := HR2.out.fr HGL.out hf2
      refine hK' _ _ hS0 ?_
      clear hK' K''
      refine wpAnyH_take (i := 10) (v := .bool t) rfl (by kernel_rfl) (by kernel_rfl) (by kernel_rfl) (fun _ _ _ h => h) (Or.inl ⟨by kernel_rfl, by intro w _; go_simp⟩) hS0 ?_
      refine wpAnyH_done (by kernel_rfl) ?_ _
      simp only [List.getElem_toArray, List.getElem_cons_succ, List.getElem_cons_zero]
      go_frame
      have HF2 := hide (HF.out.trans hf2)
      clear hf2 hS0
      cases t with
      | true =>
        have hxy : u1 < v1 := by have := HT.out; simpa using this.symm
        have HLN : Hid (LookF Q x.1 (k + 1) j) := lookF_up HL.out HQ.out HK.out.1.2 (by rw [← HU.out.1, ← HU.out.2]; exact hxy)
        go_wp2_with fail
        refine ⟨⟨k + 1, j, ?_, ?_, HLN.out, HF2.out⟩, ?_⟩
        · congr 1; have := HK.out; omega
        · rw [HMI.out.2]
        · have := HK.out; have := HMI.out; simp [intOf]; omega
      | false =>
        have hxy : ¬ u1 < v1 := by have := HT.out; simpa using this.symm
        have HLN : Hid (LookF Q x.1 i k) := lookF_down HL.out HQ.out HK.out.1.1 HK.out.1.2 (by rw [← HU.out.1, ← HU.out.2]; exact hxy)
        go_wp2_with fail
        refine ⟨⟨i, k, ?_, ?_, HLN.out, HF2.out⟩, ?_⟩
        · rw [HMI.out.1]
        · rw [HK.out.2]
        · have := HK.out; have := HMI.out; simp [intOf]; omega
    · have hji : j = i := by omega
      subst hji
      have hmij : mi = mj := by omega
      have hnlt : ¬ (mi : Int) < (mj : Int) := by omega
      have HE := hide (lookF_end HL.out HQ.out)
      obtain ⟨e1, he1⟩ : ∃ e1, e1 = a + j := ⟨_, rfl⟩
      have hm1 : (mi : Int) - 1 = (e1 : Int) := by have := HM.out; omega
      have we1 : IntKind.i64.wrap (e1 : Int) = e1 := wraps_i64 _ (by omega) (by omega)
      have HE1 := hide he1
      have HMI := hide hmi
      have he1n : e1 < n := by have := HM.out; omega
      have hjl : (Q.take j).length = j := by rw [List.length_take]; omega
      have HRS := hide (H.out.fr HF.out (no_no _))
      have HJ := hide (And.intro hjQ hjl)
      clear hmi hmj hmij he1 hjl
      go_wp2_with fail
      go_loopw [13] (fun kv wr => ∃ t : Nat, t ≤ j ∧ kv = .int .i64 ((a + t : Nat) : Int) ∧ Hid (RwN wr g (A ++ (Q.take j).take t ++ x :: ((Q.take j).drop t ++ (Q.drop j ++ B))) N) ∧ Hid (Fr (One g) w wr)) (fun kv _ => n - (intOf kv).toNat)
      case atStart =>
        refine ⟨0, Nat.zero_le _, rfl, HRS.out.same ?_, HF.out.of_no⟩
        rw [List.take_zero, List.drop_zero, ← List.append_assoc (Q.take j), List.take_append_drop]
        simp
      case round =>
        obtain ⟨t, ht, rfl, HR, HFR⟩ := hrel
        obtain ⟨p, hp⟩ : ∃ p, p = a + t := ⟨_, rfl⟩
        rw [← hp]
        have hpe : p ≤ e1 := by have := HE1.out; omega
        by_cases hlt2 : t < j
        · obtain ⟨q, hq⟩ : ∃ q, q = p + 1 := ⟨_, rfl⟩
          obtain ⟨s1, s2, s3⟩ := up_step A (Q.take j) (Q.drop j ++ B) x t (by rw [HJ.out.2]; exact hlt2)
          rw [HA.out, ← hp, ← hq] at s1 s3
          rw [HA.out, ← hp] at s2
          obtain ⟨cur, hr, hcN⟩ := HR.out
          have hxl : (A ++ (Q.take j).take t ++ x :: ((Q.take j).drop t ++ (Q.drop j ++ B))).length = n := by
            have h1 := HN.out
            have h2 := HJ.out.1
            simp at h1 ⊢
            omega
          obtain ⟨xs, hxs⟩ : ∃ xs, xs = A ++ (Q.take j).take t ++ x :: ((Q.take j).drop t ++ (Q.drop j ++ B)) := ⟨_, rfl⟩
          rw [← hxs] at s1 s2 s3 hr hxl
          have hpe2 : (p : Int) < (e1 : Int) := by have := HE1.out; omega
          have hpq : (p : Int) + 1 = (q : Int) := by omega
          have wq : IntKind.i64.wrap (q : Int) = q := wraps_i64 _ (by omega) (by omega)
          have hpn : (p : Int) < (n : Int) := by omega
          have hqn : (q : Int) < (n : Int) := by omega
          have hpl : p < xs.length := by omega
          have hql : q < xs.length := by omega
          have c0 := hr.c0 hpl
          have c1 := hr.c1 hpl
          have d0 := hr.c0 hql
          have d1 := hr.c1 hql
          have f0 := hr.fz (p * 2)
          have f1 := hr.fz (p * 2 + 1)
          have g0 := hr.fz (q * 2)
          have g1 := hr.fz (q * 2 + 1)
          obtain ⟨cur', hr', hN'⟩ := hr.swap hpl hql (by omega)
          rw [s1] at hr'
          have HF' := hide (swpW_fr (g := g) HFR.out (fun _ => rfl) p q (xs.getD p ed) (xs.getD q ed))
          have HR' := hide hr'
          obtain ⟨u, hu⟩ : ∃ u, u = xs.getD p ed := ⟨_, rfl⟩
          obtain ⟨v, hv⟩ : ∃ v, v = xs.getD q ed := ⟨_, rfl⟩
          rw [← hu] at c0 c1
          rw [← hv] at d0 d1
          rw [← hu, ← hv] at HR' HF'
          obtain ⟨x1, ⟨x2, x4, x5⟩, x3⟩ := u
          obtain ⟨y1, ⟨y2, y4, y5⟩, y3⟩ := v
          simp only [sv] at c0 c1 d0 d1
          have HNN := hide (And.intro hcN hN')
          have HPI := hide hp
          have HQI := hide hq
          clear hcN hN' hr hr' s1 s2 s3 hu hv hxl hxs hpl hql hp hq HR HFR
          go_wp2_with fail
          go_region
          go_wp2
          refine ⟨⟨t + 1, by omega, ?_, ⟨cur', HR'.out.fr ((Fr.refl No _).drew) (no_no _), HNN.out.2.trans HNN.out.1⟩, HF'.out.drew⟩, ?_⟩
          · congr 1; have := HPI.out; have := HQI.out; omega
          · have := HPI.out; have := HQI.out; simp [intOf]; omega
        · have htj : t = j := by omega
          subst htj
          have hpe2 : ¬ (p : Int) < (e1 : Int) := by have := HE1.out; omega
          go_wp2
          refine bodyPost_ret (results_none rfl _ _ _) rfl ?_
          refine ⟨rfl, HR.out.same ?_, HFR.out⟩
          have e9 : (Q.take t).drop t = [] := List.drop_eq_nil_of_le (by rw [HJ.out.2]; exact Nat.le_refl _)
          rw [HE.out, List.take_take, Nat.min_self, e9]
          simp
end Go.Proofs.YtjjjlilflbddoaaDoor
/-
  Two sorted rows merged in place: the second has one.
-/
namespace Go.Proofs.YtjjjlilflbddoaaDoor
open Go.RowKit Pm

def LookL (P : List El) (y i j : Nat) : Prop := i ≤ j ∧ j ≤ P.length ∧ (∀ k, k < i → (P.getD k ed).1 ≤ y) ∧ (∀ k, j ≤ k → k < P.length → y < (P.getD k ed).1)
theorem lookL_up {P : List El} {y i j h : Nat} (H : LookL P y i j) (hP : Sd P) (h2 : h < j) (hl : ¬ y < (P.getD h ed).1) : LookL P y (h + 1) j := by
  obtain ⟨a1, a2, a3, a4⟩ := H
  refine ⟨by omega, a2, fun k hk => ?_, a4⟩
  have := sd_get hP (show k ≤ h by omega) (by omega)
  omega
theorem lookL_down {P : List El} {y i j h : Nat} (H : LookL P y i j) (hP : Sd P) (h1 : i ≤ h) (h2 : h < j) (hl : y < (P.getD h ed).1) : LookL P y i h := by
  obtain ⟨a1, a2, a3, a4⟩ := H
  refine ⟨h1, by omega, a3, fun k hk hk2 => ?_⟩
  have := sd_get hP hk hk2
  omega
theorem lookL_end {P : List El} {y : El} {i : Nat} (H : LookL P y.1 i i) (hP : Sd P) : mrg P [y] = P.take i ++ y :: P.drop i := by
  obtain ⟨a1, a2, a3, a4⟩ := H
  have := mrg_last (y := y) (P1 := P.take i) (P2 := P.drop i) (by rw [List.take_append_drop]; exact hP) (fun x hx => by
    obtain ⟨k, h1, h2, e⟩ := mem_take_get hx
    rw [← e]; exact a3 k h1) (fun x hx => by
    obtain ⟨k, h1, h2, e⟩ := mem_drop_get hx
    rw [← e]; exact a4 k h1 h2)
  rw [List.take_append_drop] at this
  exact this

set_option maxRecDepth 100000 in
set_option maxHeartbeats 3200000 in
theorem merge_last (g n cap N a m b : Nat) (A P B : List El) (y : El) (w : World) (h : RwN w g (A ++ P ++ [y] ++ B) N) (hn : (A ++ P ++ [y] ++ B).length = n) (hn2 : n ≤ 100000) (hP : Sd P) (hp1 : P.length ≠ 1) (ha : A.length = a) (hm : a + P.length = m) (hb : m + 1 = b) :
    Calls Tryd.prog 151 #[.slice (some ⟨g, 0, none⟩) n cap, .int .i64 a, .int .i64 m, .int .i64 b, cmpV] w fun e w' => e = .returned (.tuple #[]) ∧ RwN w' g (A ++ mrg P [y] ++ B) N ∧ Fr (One g) w w' := by
  have hbn : b ≤ n := by rw [← hn]; simp; omega
  have hma : ¬ (m : Int) - (a : Int) = 1 := by omega
  have hma0 : (m : Int) - (a : Int) = (P.length : Int) := by omega
  have hbm : (b : Int) - (m : Int) = 1 := by omega
  obtain ⟨pl, hpl0⟩ : ∃ pl, pl = P.length := ⟨_, rfl⟩
  rw [← hpl0] at hma0 hp1
  have hma1 : ((pl : Int) == 1) = false := by simp; omega
  have wpl : IntKind.i64.wrap (pl : Int) = pl := wraps_i64 _ (by omega) (by omega)
  have H := hide h
  have HN := hide hn
  have HA := hide ha
  have HM := hide hm
  have HB := hide hb
  have HP := hide hP
  have HPL := hide hpl0
  have hmb : m < b := by omega
  have ham : a ≤ m := by omega
  clear h hn ha hm hb hP hma hpl0
  unfold cmpV
  go_enter Tryd.func151, Tryd.ntmps151
  go_wp2
  go_loopw [14, 15] (fun iv jv wr => ∃ i j : Nat, iv = .int .i64 ((a + i : Nat) : Int) ∧ jv = .int .i64 ((a + j : Nat) : Int) ∧ Hid (LookL P y.1 i j) ∧ Hid (Fr No w wr)) (fun iv jv _ => (intOf jv).toNat - (intOf iv).toNat)
  case atStart =>
    refine ⟨0, P.length, rfl, by rw [HM.out], ⟨Nat.zero_le _, Nat.le_refl _, fun k hk => by omega, fun k hk hk2 => by omega⟩, Fr.refl _ _⟩
  case round =>
    obtain ⟨i, j, rfl, rfl, HL, HF⟩ := hrel
    obtain ⟨mi, hmi⟩ : ∃ mi, mi = a + i := ⟨_, rfl⟩
    obtain ⟨mj, hmj⟩ : ∃ mj, mj = a + j := ⟨_, rfl⟩
    rw [← hmi, ← hmj]
    have hij := HL.out.1
    have hjP := HL.out.2.1
    have hmjb : mj ≤ m := by have := HM.out; omega
    by_cases hlt : i < j
    · obtain ⟨s, hs⟩ : ∃ s, s = mi + mj := ⟨_, rfl⟩
      obtain ⟨hh, hhe⟩ : ∃ hh, hh = s / 2 := ⟨_, rfl⟩
      obtain ⟨k, hk⟩ : ∃ k, hh = a + k := ⟨hh - a, by omega⟩
      have hki : i ≤ k ∧ k < j := by omega
      have hsi : (mi : Int) + (mj : Int) = (s : Int) := by omega
      have ws : IntKind.i64.wrap (s : Int) = s := wraps_i64 _ (by omega) (by omega)
      have ws2 : IntKind.u64.wrap (s : Int) = s := by rw [IntKind.wrap_u64]; omega
      have hs2 : (s : Int) / 2 = (hh : Int) := by omega
      have wh : IntKind.i64.wrap (hh : Int) = hh := wraps_i64 _ (by omega) (by omega)
      have hlti : (mi : Int) < (mj : Int) := by omega
      have hhn : (hh : Int) < (n : Int) := by omega
      have hmn : (m : Int) < (n : Int) := by omega
      have HR := hide (H.out.fr HF.out (no_no _))
      obtain ⟨cur, hr, hcN⟩ := HR.out
      have hxl := HN.out
      have hg1 := get_P A P [y] B k (by omega)
      rw [HA.out, ← hk] at hg1
      have hg2 : (A ++ P ++ [y] ++ B).getD m ed = y := by have := get_Q A P [y] B 0 (by simp); rw [Nat.add_zero, HA.out, HM.out] at this; exact this
      have hr2 := hr.rd2 (i := m) (j := hh) (by omega) (by omega)
      rw [hg1, hg2] at hr2
      have HGL := hide hr.lt
      have HR2 := hide hr2
      obtain ⟨v, hv⟩ : ∃ v, v = P.getD k ed := ⟨_, rfl⟩
      obtain ⟨u, hu⟩ : ∃ u, u = y := ⟨_, rfl⟩
      rw [← hv] at HR2
      rw [← hu] at HR2
      have HU := hide (And.intro hu hv)
      have HK := hide (And.intro hki hk)
      have HS := hide (And.intro hs hhe)
      have HMI := hide (And.intro hmi hmj)
      clear hs hhe hmi hmj hu hv hk hki hr hcN hxl hg1 hg2 hr2
      obtain ⟨c, hc, HC⟩ : ∃ c : Int, decide (c < 0) = decide (u.1 < v.1) ∧ Hid (∀ w, Calls Tryd.prog 114 #[.agg #[.int .i64 u.1, .slice u.2.1.1 u.2.1.2.1 u.2.1.2.2], .agg #[.int .i64 v.1, .slice v.2.1.1 v.2.1.2.1 v.2.1.2.2]] w fun e w' => e = .returned (.int .i64 c) ∧ Fr No w w') := less_any u.1 v.1 _ _
      obtain ⟨t, ht⟩ : ∃ t : Bool, t = decide (u.1 < v.1) := ⟨_, rfl⟩
      rw [← ht] at hc
      have HT := hide ht
      clear ht
      obtain ⟨u1, ⟨u2, u4, u5⟩, u3⟩ := u
      obtain ⟨v1, ⟨v2, v4, v5⟩, v3⟩ := v
      simp only [] at HC HT
      go_upto_region 17 with fail
      refine wp_region_held (S := fun W => (W.cell? ⟨g, m * 2, none⟩ = some (.int .i64 (u1 : Nat)) ∧ W.cell? ⟨g, m * 2 + 1, none⟩ = some (.slice u2 u4 u5)) ∧ (W.cell? ⟨g, hh * 2, none⟩ = some (.int .i64 (v1 : Nat)) ∧ W.cell? ⟨g, hh * 2 + 1, none⟩ = some (.slice v2 v4 v5))) (by kernel_rfl) ?_
      change wpAnyH _ _ _ _ _ _ _ _ (World.drew _)
      have hS0 : ((World.drew wr).cell? ⟨g, m * 2, none⟩ = some (.int .i64 (u1 : Nat)) ∧ (World.drew wr).cell? ⟨g, m * 2 + 1, none⟩ = some (.slice u2 u4 u5)) ∧ ((World.drew wr).cell? ⟨g, hh * 2, none⟩ = some (.int .i64 (v1 : Nat)) ∧ (World.drew wr).cell? ⟨g, hh * 2 + 1, none⟩ = some (.slice v2 v4 v5)) := HR2.out
      refine wpAnyH_take (i := 0) (v := .func (.func 114) #[] #[]) rfl (by kernel_rfl) (by kernel_rfl) (by kernel_rfl) (fun _ _ _ h => h) (Or.inl ⟨by kernel_rfl, by intro w _; go_simp⟩) hS0 ?_
      refine wpAnyH_take (i := 1) (v := .slice (some ⟨g, 0, none⟩) n cap) rfl (by kernel_rfl) (by kernel_rfl) (by kernel_rfl) (fun _ _ _ h => h) (Or.inl ⟨by kernel_rfl, by intro w _; go_simp⟩) hS0 ?_
      refine wpAnyH_take (i := 2) (v := .int .i64 (m : Nat)) rfl (by kernel_rfl) (by kernel_rfl) (by kernel_rfl) (fun _ _ _ h => h) (Or.inl ⟨by kernel_rfl, by intro w _; go_simp⟩) hS0 ?_
      refine wpAnyH_take (i := 3) (v := .pointer (some ⟨g, m * 2, none⟩)) rfl (by kernel_rfl) (by kernel_rfl) (by kernel_rfl) (fun _ _ _ h => h) (Or.inl ⟨by kernel_rfl, by intro w _; go_simp⟩) hS0 ?_
      refine wpAnyH_take (i := 4) (v := .agg #[.int .i64 (u1 : Nat), .slice u2 u4 u5]) rfl (by kernel_rfl) (by kernel_rfl) (by kernel_rfl) (fun _ _ _ h => h) (Or.inl ⟨by kernel_rfl, by intro w h; have h := h.1; have h0 := h.1; have h1 := h.2; go_simp⟩) hS0 ?_
      refine wpAnyH_take (i := 5) (v := .slice (some ⟨g, 0, none⟩) n cap) rfl (by kernel_rfl) (by kernel_rfl) (by kernel_rfl) (fun _ _ _ h => h) (Or.inl ⟨by kernel_rfl, by intro w _; go_simp⟩) hS0 ?_
      refine wpAnyH_take (i := 6) (v := .int .i64 (hh : Nat)) rfl (by kernel_rfl) (by kernel_rfl) (by kernel_rfl) (fun _ _ _ h => h) (Or.inl ⟨by kernel_rfl, by intro w _; go_simp⟩) hS0 ?_
      refine wpAnyH_take (i := 7) (v := .pointer (some ⟨g, hh * 2, none⟩)) rfl (by kernel_rfl) (by kernel_rfl) (by kernel_rfl) (fun _ _ _ h => h) (Or.inl ⟨by kernel_rfl, by intro w _; go_simp⟩) hS0 ?_
      refine wpAnyH_take (i := 8) (v := .agg #[.int .i64 (v1 : Nat), .slice v2 v4 v5]) rfl (by kernel_rfl) (by kernel_rfl) (by kernel_rfl) (fun _ _ _ h => h) (Or.inl ⟨by kernel_rfl, by intro w h; have h := h.2; have h0 := h.1; have h1 := h.2; go_simp⟩) hS0 ?_
      refine wpAnyH_one (i := 9) (by kernel_rfl) rfl (by kernel_rfl) (fun K'' hK' => ?_)
      go_simp
      refine (HC.out _).mono ?_
      rintro e w2 ⟨rfl, hf2⟩
      have hf2 : Fr No wr w2 := (Fr.refl No wr).drew.trans hf2
      have hS0 : (w2.cell? ⟨g, m * 2, none⟩ = some (.int .i64 (u1 : Nat)) ∧ w2.cell? ⟨g, m * 2 + 1, none⟩ = some (.slice u2 u4 u5)) ∧ (w2.cell? ⟨g, hh * 2, none⟩ = some (.int .i64 (v1 : Nat)) ∧ w2.cell? ⟨g, hh * 2 + 1, none⟩ = some (.slice v2 v4 v5)) := HR2.out.fr HGL.out hf2
      refine hK' _ _ hS0 ?_
      clear hK' K''
      refine wpAnyH_take (i := 10) (v := .bool t) rfl (by kernel_rfl) (by kernel_rfl) (by kernel_rfl) (fun _ _ _ h => h) (Or.inl ⟨by kernel_rfl, by intro w _; go_simp⟩) hS0 ?_
      refine wpAnyH_take (i := 11) (v := .bool (!t)) rfl (by kernel_rfl) (by kernel_rfl) (by kernel_rfl) (fun _ _ _ h => h) (Or.inl ⟨by kernel_rfl, by intro w _; go_simp⟩) hS0 ?_
      refine wpAnyH_done (by kernel_rfl) ?_ _
      simp only [List.getElem_toArray, List.getElem_cons_succ, List.getElem_cons_zero]
      go_frame
      have HF2 := hide (HF.out.trans hf2)
      clear hf2 hS0
      cases t with
      | true =>
        have hxy : u1 < v1 := by have := HT.out; simpa using this.symm
        have HLN : Hid (LookL P y.1 i k) := lookL_down HL.out HP.out HK.out.1.1 HK.out.1.2 (by rw [← HU.out.1, ← HU.out.2]; exact hxy)
        go_wp2_with fail
        refine ⟨⟨i, k, ?_, ?_, HLN.out, HF2.out⟩, ?_⟩
        · rw [HMI.out.1]
        · rw [HK.out.2]
        · have := HK.out; have := HMI.out; simp [intOf]; omega
      | false =>
        have hxy : ¬ u1 < v1 := by have := HT.out; simpa using this.symm
        have HLN : Hid (LookL P y.1 (k + 1) j) := lookL_up HL.out HP.out HK.out.1.2 (by rw [← HU.out.1, ← HU.out.2]; exact hxy)
        go_wp2_with fail
        refine ⟨⟨k + 1, j, ?_, ?_, HLN.out, HF2.out⟩, ?_⟩
        · congr 1; have := HK.out; omega
        · rw [HMI.out.2]
        · have := HK.out; have := HMI.out; simp [intOf]; omega
    · have hji : j = i := by omega
      subst hji
      have hmij : mi = mj := by omega
      have hnlt : ¬ (mi : Int) < (mj : Int) := by omega
      have HE := hide (lookL_end HL.out HP.out)
      have HRS := hide (H.out.fr HF.out (no_no _))
      have HMI := hide hmi
      have hjl : (P.drop j).length = m - mi := by rw [List.length_drop]; have := HM.out; omega
      have hAl : (A ++ P.take j).length = mi := by rw [List.length_append, List.length_take, HA.out]; omega
      have HJ := hide (And.intro hjP (And.intro hjl hAl))
      have hmim : mi ≤ m := by omega
      clear hmi hmj hmij hjl hAl
      go_wp2_with fail
      go_loopw [17] (fun kv wr => ∃ t : Nat, mi + t ≤ m ∧ kv = .int .i64 ((mi + t : Nat) : Int) ∧ Hid (RwN wr g ((A ++ P.take j) ++ (P.drop j).take t ++ y :: ((P.drop j).drop t ++ B)) N) ∧ Hid (Fr (One g) w wr)) (fun kv _ => (intOf kv).toNat)
      case atStart =>
        refine ⟨m - mi, by omega, by rw [show mi + (m - mi) = m by omega], HRS.out.same ?_, HF.out.of_no⟩
        have e1 : (P.drop j).take (m - mi) = P.drop j := List.take_of_length_le (by rw [HJ.out.2.1]; exact Nat.le_refl _)
        have e2 : (P.drop j).drop (m - mi) = [] := List.drop_eq_nil_of_le (by rw [HJ.out.2.1]; exact Nat.le_refl _)
        rw [e1, e2, List.append_assoc A, List.take_append_drop]
        simp
      case round =>
        obtain ⟨t, ht, rfl, HR, HFR⟩ := hrel
        obtain ⟨p, hp⟩ : ∃ p, p = mi + t := ⟨_, rfl⟩
        rw [← hp]
        by_cases hlt2 : 0 < t
        · obtain ⟨t', rfl⟩ : ∃ t', t = t' + 1 := ⟨t - 1, by omega⟩
          obtain ⟨q, hq⟩ : ∃ q, q = mi + t' := ⟨_, rfl⟩
          obtain ⟨s1, s2, s3⟩ := down_step (A ++ P.take j) (P.drop j) B y t' (by rw [HJ.out.2.1]; omega)
          have hp' : mi + t' + 1 = p := by omega
          rw [HJ.out.2.2, hp'] at s1 s2
          rw [HJ.out.2.2] at s3
          rw [← hq] at s1 s3
          obtain ⟨cur, hr, hcN⟩ := HR.out
          have hxl : ((A ++ P.take j) ++ (P.drop j).take (t' + 1) ++ y :: ((P.drop j).drop (t' + 1) ++ B)).length = n := by
            have h1 := HN.out
            have h2 := HJ.out
            simp at h1 h2 ⊢
            omega
          obtain ⟨xs, hxs⟩ : ∃ xs, xs = (A ++ P.take j) ++ (P.drop j).take (t' + 1) ++ y :: ((P.drop j).drop (t' + 1) ++ B) := ⟨_, rfl⟩
          rw [← hxs] at s1 s2 s3 hr hxl
          have hpe2 : (mi : Int) < (p : Int) := by omega
          have hpq : (p : Int) - 1 = (q : Int) := by omega
          have wq : IntKind.i64.wrap (q : Int) = q := wraps_i64 _ (by omega) (by omega)
          have hpn : (p : Int) < (n : Int) := by omega
          have hqn : (q : Int) < (n : Int) := by omega
          have hpl : p < xs.length := by omega
          have hql : q < xs.length := by omega
          have c0 := hr.c0 hpl
          have c1 := hr.c1 hpl
          have d0 := hr.c0 hql
          have d1 := hr.c1 hql
          have f0 := hr.fz (p * 2)
          have f1 := hr.fz (p * 2 + 1)
          have g0 := hr.fz (q * 2)
          have g1 := hr.fz (q * 2 + 1)
          obtain ⟨cur', hr', hN'⟩ := hr.swap hpl hql (by omega)
          rw [s1] at hr'
          have HF' := hide (swpW_fr (g := g) HFR.out (fun _ => rfl) p q (xs.getD p ed) (xs.getD q ed))
          have HR' := hide hr'
          obtain ⟨u, hu⟩ : ∃ u, u = xs.getD p ed := ⟨_, rfl⟩
          obtain ⟨v, hv⟩ : ∃ v, v = xs.getD q ed := ⟨_, rfl⟩
          rw [← hu] at c0 c1
          rw [← hv] at d0 d1
          rw [← hu, ← hv] at HR' HF'
          obtain ⟨x1, ⟨x2, x4, x5⟩, x3⟩ := u
          obtain ⟨y1, ⟨y2, y4, y5⟩, y3⟩ := v
          simp only [sv] at c0 c1 d0 d1
          have HNN := hide (And.intro hcN hN')
          have HPI := hide hp
          have HQI := hide hq
          clear hcN hN' hr hr' s1 s2 s3 hu hv hxl hxs hpl hql hp hq hp' HR HFR
          go_wp2_with fail
          go_region
          go_wp2
          refine ⟨⟨t', by omega, ?_, ⟨cur', HR'.out.fr ((Fr.refl No _).drew) (no_no _), HNN.out.2.trans HNN.out.1⟩, HF'.out.drew⟩, ?_⟩
          · rw [← HQI.out]
          · have := HPI.out; have := HQI.out; simp [intOf]; omega
        · have htj : t = 0 := by omega
          subst htj
          have hpe2 : ¬ (mi : Int) < (p : Int) := by omega
          go_wp2
          refine bodyPost_ret (results_none rfl _ _ _) rfl ?_
          refine ⟨rfl, HR.out.same ?_, HFR.out⟩
          rw [HE.out]
          simp
end Go.Proofs.YtjjjlilflbddoaaDoor
/-
  Two sorted rows merged in place: where they are parted.
-/
namespace Go.Proofs.YtjjjlilflbddoaaDoor
open Go.RowKit Pm

def LookM (f : Nat → Nat) (p lo hi s r : Nat) : Prop := lo ≤ s ∧ s ≤ r ∧ r ≤ hi ∧ (∀ c, lo ≤ c → c < s → ¬ f (p - c) < f c) ∧ (∀ c, r ≤ c → c < hi → f (p - c) < f c)
def MonoM (f : Nat → Nat) (p lo hi : Nat) : Prop := ∀ c d, lo ≤ c → c ≤ d → d < hi → f c ≤ f d ∧ f (p - d) ≤ f (p - c)
theorem lookM_start (f : Nat → Nat) (p lo hi : Nat) (h : lo ≤ hi) : LookM f p lo hi lo hi := ⟨Nat.le_refl _, h, Nat.le_refl _, fun c h1 h2 => by omega, fun c h1 h2 => by omega⟩
theorem lookM_up {f : Nat → Nat} {p lo hi s r c : Nat} (H : LookM f p lo hi s r) (hm : MonoM f p lo hi) (h1 : s ≤ c) (h2 : c < r) (hl : ¬ f (p - c) < f c) : LookM f p lo hi (c + 1) r := by
  obtain ⟨a1, a2, a3, a4, a5⟩ := H
  refine ⟨by omega, by omega, a3, fun d hd hd2 => ?_, a5⟩
  have := hm d c hd (by omega) (by omega)
  omega
theorem lookM_down {f : Nat → Nat} {p lo hi s r c : Nat} (H : LookM f p lo hi s r) (hm : MonoM f p lo hi) (h1 : s ≤ c) (h2 : c < r) (hl : f (p - c) < f c) : LookM f p lo hi s c := by
  obtain ⟨a1, a2, a3, a4, a5⟩ := H
  refine ⟨a1, h1, by omega, a4, fun d hd hd2 => ?_⟩
  have := hm c d (by omega) hd (by omega)
  omega
/-- The keys as they lie in the row. -/
def key (A P Q B : List El) (i : Nat) : Nat := ((A ++ P ++ Q ++ B).getD i ed).1
theorem key_P {A P Q B : List El} {a i : Nat} (ha : A.length = a) (h1 : a ≤ i) (h2 : i < a + P.length) : key A P Q B i = (P.getD (i - a) ed).1 := by
  unfold key
  rw [show i = A.length + (i - a) by omega, get_P A P Q B (i - a) (by omega), show A.length + (i - a) - a = i - a by omega]
theorem key_Q {A P Q B : List El} {m i : Nat} (hm : A.length + P.length = m) (h1 : m ≤ i) (h2 : i < m + Q.length) : key A P Q B i = (Q.getD (i - m) ed).1 := by
  unfold key
  rw [show i = A.length + P.length + (i - m) by omega, get_Q A P Q B (i - m) (by omega), show A.length + P.length + (i - m) - m = i - m by omega]
theorem mono_key {A P Q B : List El} {a m b nn lo hi : Nat} (hP : Sd P) (hQ : Sd Q) (ha : A.length = a) (hm : a + P.length = m) (hb : m + Q.length = b) (h1 : a ≤ lo) (h2 : hi ≤ m) (h3 : lo < hi → nn ≤ b + lo) (h4 : lo < hi → m + hi ≤ nn) : MonoM (key A P Q B) (nn - 1) lo hi := fun c d hc hcd hd => by
  have h3 := h3 (by omega)
  have h4 := h4 (by omega)
  rw [key_P ha (by omega) (by omega), key_P ha (by omega) (by omega), key_Q (by omega) (by omega) (by omega : nn - 1 - d < m + Q.length), key_Q (by omega) (by omega) (by omega : nn - 1 - c < m + Q.length)]
  exact ⟨sd_get hP (by omega) (by omega), sd_get hQ (by omega) (by omega)⟩
/-- The two parts of each, and what they come to. -/
theorem look_split {A P Q B : List El} {a m b nn lo hi s : Nat} (H : LookM (key A P Q B) (nn - 1) lo hi s s) (hP : Sd P) (hQ : Sd Q) (ha : A.length = a) (hm : a + P.length = m) (hb : m + Q.length = b) (h1 : a ≤ lo) (h2 : hi ≤ m) (h3 : nn ≤ b + lo) (h4 : m + hi ≤ nn) (h5 : lo = a ∨ nn = b + lo) (h6 : hi = m ∨ nn = m + hi) :
    ∃ P1 P2 Q1 Q2, P = P1 ++ P2 ∧ Q = Q1 ++ Q2 ∧ P1.length = s - a ∧ P2.length = m - s ∧ Q1.length = nn - s - m ∧ Q2.length = b - (nn - s) ∧ Sd P1 ∧ Sd P2 ∧ Sd Q1 ∧ Sd Q2 ∧ mrg P Q = mrg P1 Q1 ++ mrg P2 Q2 := by
  obtain ⟨l1, l2, l3, l4, l5⟩ := H
  have eP := List.take_append_drop (s - a) P
  have eQ := List.take_append_drop (nn - s - m) Q
  have sP : Sd (P.take (s - a) ++ P.drop (s - a)) := by rw [eP]; exact hP
  have sQ : Sd (Q.take (nn - s - m) ++ Q.drop (nn - s - m)) := by rw [eQ]; exact hQ
  have pP := List.pairwise_append.1 sP
  have pQ := List.pairwise_append.1 sQ
  refine ⟨P.take (s - a), P.drop (s - a), Q.take (nn - s - m), Q.drop (nn - s - m), eP.symm, eQ.symm, by rw [List.length_take]; omega, by rw [List.length_drop]; omega, by rw [List.length_take]; omega, by rw [List.length_drop]; omega, pP.1, pP.2.1, pQ.1, pQ.2.1, ?_⟩
  have hcut := mrg_cut sP sQ (fun x hx y hy => ?_) (fun x hx y hy => ?_)
  · rw [eP, eQ] at hcut; exact hcut
  · obtain ⟨i, i1, i2, rfl⟩ := mem_take_get hx
    obtain ⟨k, k1, k2, rfl⟩ := mem_drop_get hy
    have hs : lo < s := by
      rcases Nat.lt_or_ge lo s with h | h
      · exact h
      · rcases h5 with h5 | h5 <;> omega
    have h7 := l4 (s - 1) (by omega) (by omega)
    have kP := key_P (P := P) (Q := Q) (B := B) (i := s - 1) ha (by omega) (by omega)
    have kQ := key_Q (A := A) (P := P) (Q := Q) (B := B) (m := m) (i := nn - s) (by omega) (by omega) (by omega)
    rw [show nn - 1 - (s - 1) = nn - s by omega, kQ, kP] at h7
    have h8 := sd_get hP (show i ≤ s - 1 - a by omega) (by omega)
    have h9 := sd_get hQ k1 k2
    omega
  · obtain ⟨i, i1, i2, rfl⟩ := mem_drop_get hx
    obtain ⟨k, k1, k2, rfl⟩ := mem_take_get hy
    have hs : s < hi := by
      rcases Nat.lt_or_ge s hi with h | h
      · exact h
      · rcases h6 with h6 | h6 <;> omega
    have h7 := l5 s (Nat.le_refl _) hs
    have kP := key_P (P := P) (Q := Q) (B := B) (i := s) ha (by omega) (by omega)
    have kQ := key_Q (A := A) (P := P) (Q := Q) (B := B) (m := m) (i := nn - 1 - s) (by omega) (by omega) (by omega)
    rw [kQ, kP] at h7
    have h8 := sd_get hP i1 i2
    have h9 := sd_get hQ (show k ≤ nn - 1 - s - m by omega) (by omega)
    omega
/-- What merging in place is to do. -/
def MergeOk (sz : Nat) : Prop := ∀ (g n cap N a m b : Nat) (A P Q B : List El) (w : World), P.length + Q.length ≤ sz → RwN w g (A ++ P ++ Q ++ B) N → (A ++ P ++ Q ++ B).length = n → n ≤ 100000 → Sd P → Sd Q → 0 < P.length → 0 < Q.length → A.length = a → a + P.length = m → m + Q.length = b →
    Calls Tryd.prog 151 #[.slice (some ⟨g, 0, none⟩) n cap, .int .i64 a, .int .i64 m, .int .i64 b, cmpV] w fun e w' => e = .returned (.tuple #[]) ∧ RwN w' g (A ++ mrg P Q ++ B) N ∧ Fr (One g) w w'
end Go.Proofs.YtjjjlilflbddoaaDoor
