import Derived.Test.YtjjjlilflbddoaaDoorGPsA
/-
  Bundles sorted by insertion: the walk.
-/
namespace Go.Proofs.YtjjjlilflbddoaaDoor
open Go.RowKit Pm

set_option maxRecDepth 100000 in
set_option maxHeartbeats 3200000 in
theorem insertion_any (g n cap N a b : Nat) (A M B : List El) (w : World) (h : RwN w g (A ++ M ++ B) N) (hn : (A ++ M ++ B).length = n) (hn2 : n ≤ 100000) (ha : A.length = a) (hb : A.length + M.length = b) :
    Calls Tryd.prog 150 #[.slice (some ⟨g, 0, none⟩) n cap, .int .i64 a, .int .i64 b, cmpV] w fun e w' => e = .returned (.tuple #[]) ∧ (∃ M', RwN w' g (A ++ M' ++ B) N ∧ Sd M' ∧ St M M' ∧ M'.length = M.length) ∧ Fr (One g) w w' := by
  have hbn : b ≤ n := by rw [← hn]; simp; omega
  have hab : a ≤ b := by omega
  have HO := hide (ins_start h)
  have HG := hide h.lt
  have HN := hide (show A.length + M.length + B.length = n by rw [← hn]; simp; omega)
  have HA := hide ha
  have HM := hide (show M.length = b - a by omega)
  clear h hn ha hb
  unfold cmpV
  go_enter Tryd.func150, Tryd.ntmps150
  go_wp2
  go_loopw [8] (fun iv wr => ∃ k : Nat, iv = .int .i64 ((a + k : Nat) : Int) ∧ 1 ≤ k ∧ (k = 1 ∨ a + k ≤ b) ∧ Hid (InsO wr g N A M B k) ∧ Hid (Fr (One g) w wr)) (fun iv _ => b - (intOf iv).toNat)
  case atStart => exact ⟨1, by go_num, Nat.le_refl _, .inl rfl, HO.out, Fr.refl _ _⟩
  case round =>
    obtain ⟨k, rfl, hk1, hk, HS, HF⟩ := hrel
    obtain ⟨i, hi⟩ : ∃ i, i = a + k := ⟨_, rfl⟩
    rw [← hi]
    by_cases hlt : i < b
    · obtain ⟨S, x, R, HI, HSd, HSt, hSl, hSR⟩ : ∃ S x R, Hid (InsI wr g N A B S R x a k) ∧ Hid (Sd S) ∧ Hid (St M (S ++ x :: R)) ∧ Hid (S.length = k) ∧ Hid (S.length + (R.length + 1) = M.length) := ins_in HS.out (by have := HM.out; omega) HA.out
      have HII := hide hi
      have HKK := hide (And.intro hk1 hk)
      have hin : i ≤ n := by omega
      have hia : a + k = i := hi.symm
      have HIA := hide hia
      clear hi hia hk hk1 HS
      go_wp2_with fail
      go_loopw [9] (fun jv wq => ∃ j : Nat, j ≤ k ∧ jv = .int .i64 ((a + j : Nat) : Int) ∧ Hid (InsI wq g N A B S R x a j) ∧ Hid (Fr (One g) w wq)) (fun jv _ => (intOf jv).toNat)
      case atStart => exact ⟨k, Nat.le_refl _, by rw [HIA.out], HI.out, HF.out⟩
      case round =>
        obtain ⟨j, hj, rfl, HJ, HFJ⟩ := hrel
        obtain ⟨p, hp⟩ : ∃ p, p = a + j := ⟨_, rfl⟩
        rw [← hp]
        by_cases hj0 : 0 < j
        · obtain ⟨j', rfl⟩ : ∃ j', j = j' + 1 := ⟨j - 1, by omega⟩
          obtain ⟨y, cur, ⟨xs, hr, hcN, hxl, hx, hy, hst⟩, hlast⟩ := ins_step HJ.out
          obtain ⟨q, hq⟩ : ∃ q, q = a + j' := ⟨_, rfl⟩
          have hpq' : a + j' + 1 = p := by omega
          rw [hpq'] at hx hst
          rw [← hq] at hy hst
          have hgt : (a : Int) < (p : Int) := by omega
          have hpn : (p : Int) < (n : Int) := by have := HIA.out; omega
          have hqn : (q : Int) < (n : Int) := by have := HIA.out; omega
          have hpq : (p : Int) - 1 = (q : Int) := by omega
          have wq' : IntKind.i64.wrap (q : Int) = (q : Int) := wraps_i64 _ (by omega) (by omega)
          have hpl : p < xs.length := by have := HN.out; have := hSl.out; have := hSR.out; omega
          have hql : q < xs.length := by omega
          have hr2 := hr.rd2 hpl hql
          have hgl := hr.lt
          have HRW := hide hr
          rw [hx, hy] at hr2
          have HST := hide hst
          have HLAST := hide hlast
          have HX := hide (And.intro hx hy)
          have HCN := hide hcN
          have HPL := hide (And.intro hpl hql)
          have HPQ := hide hpq'
          have HQQ := hide hq
          obtain ⟨c, hc, HC⟩ : ∃ c : Int, decide (c < 0) = decide (x.1 < y.1) ∧ Hid (∀ w, Calls Tryd.prog 114 #[.agg #[.int .i64 x.1, .slice x.2.1.1 x.2.1.2.1 x.2.1.2.2], .agg #[.int .i64 y.1, .slice y.2.1.1 y.2.1.2.1 y.2.1.2.2]] w fun e w' => e = .returned (.int .i64 c) ∧ Fr No w w') := less_any x.1 y.1 _ _
          obtain ⟨t, ht⟩ : ∃ t : Bool, t = decide (x.1 < y.1) := ⟨_, rfl⟩
          rw [← ht] at hc
          have HT := hide ht
          have HGL := hide hgl
          have HR2 := hide hr2
          obtain ⟨x1, ⟨x2, x4, x5⟩, x3⟩ := x
          obtain ⟨y1, ⟨y2, y4, y5⟩, y3⟩ := y
          have hr2 : Rd2 g p q (x1, (x2, x4, x5), x3) (y1, (y2, y4, y5), y3) wr := HR2.out
          simp only [] at HC
          unfold Rd2 at hr2
          simp only [] at hr2
          clear hr hst hlast hx hy hcN hpl hql hpq' hq hp hxl ht hgl
          go_upto_region 4 with fail
          refine wp_region_held (S := fun W => (W.cell? ⟨g, p * 2, none⟩ = some (.int .i64 (x1 : Nat)) ∧ W.cell? ⟨g, p * 2 + 1, none⟩ = some (.slice x2 x4 x5)) ∧ (W.cell? ⟨g, q * 2, none⟩ = some (.int .i64 (y1 : Nat)) ∧ W.cell? ⟨g, q * 2 + 1, none⟩ = some (.slice y2 y4 y5))) (by kernel_rfl) ?_
          change wpAnyH _ _ _ _ _ _ _ _ (World.drew _)
          have hS0 : ((World.drew wr).cell? ⟨g, p * 2, none⟩ = some (.int .i64 (x1 : Nat)) ∧ (World.drew wr).cell? ⟨g, p * 2 + 1, none⟩ = some (.slice x2 x4 x5)) ∧ ((World.drew wr).cell? ⟨g, q * 2, none⟩ = some (.int .i64 (y1 : Nat)) ∧ (World.drew wr).cell? ⟨g, q * 2 + 1, none⟩ = some (.slice y2 y4 y5)) := hr2
          refine wpAnyH_take (i := 0) (v := .int .i64 (p : Nat)) rfl (by kernel_rfl) (by kernel_rfl) (by kernel_rfl) (fun _ _ _ h => h) (Or.inl ⟨by kernel_rfl, by intro w _; go_simp⟩) hS0 ?_
          refine wpAnyH_take (i := 1) (v := .int .i64 (a : Nat)) rfl (by kernel_rfl) (by kernel_rfl) (by kernel_rfl) (fun _ _ _ h => h) (Or.inl ⟨by kernel_rfl, by intro w _; go_simp⟩) hS0 ?_
          refine wpAnyH_take (i := 2) (v := .bool true) rfl (by kernel_rfl) (by kernel_rfl) (by kernel_rfl) (fun _ _ _ h => h) (Or.inl ⟨by kernel_rfl, by intro w _; go_simp⟩) hS0 ?_
          refine wpAnyH_take (i := 3) (v := .bool true) rfl (by kernel_rfl) (by kernel_rfl) (by kernel_rfl) (fun _ _ _ h => h) (Or.inl ⟨by kernel_rfl, by intro w _; go_simp⟩) hS0 ?_
          refine wpAnyH_take (i := 4) (v := .func (.func 114) #[] #[]) rfl (by kernel_rfl) (by kernel_rfl) (by kernel_rfl) (fun _ _ _ h => h) (Or.inl ⟨by kernel_rfl, by intro w _; go_simp⟩) hS0 ?_
          refine wpAnyH_take (i := 5) (v := .slice (some ⟨g, 0, none⟩) n cap) rfl (by kernel_rfl) (by kernel_rfl) (by kernel_rfl) (fun _ _ _ h => h) (Or.inl ⟨by kernel_rfl, by intro w _; go_simp⟩) hS0 ?_
          refine wpAnyH_take (i := 6) (v := .int .i64 (p : Nat)) rfl (by kernel_rfl) (by kernel_rfl) (by kernel_rfl) (fun _ _ _ h => h) (Or.inl ⟨by kernel_rfl, by intro w _; go_simp⟩) hS0 ?_
          refine wpAnyH_take (i := 7) (v := .pointer (some ⟨g, p * 2, none⟩)) rfl (by kernel_rfl) (by kernel_rfl) (by kernel_rfl) (fun _ _ _ h => h) (Or.inl ⟨by kernel_rfl, by intro w _; go_simp⟩) hS0 ?_
          refine wpAnyH_take (i := 8) (v := .agg #[.int .i64 (x1 : Nat), .slice x2 x4 x5]) rfl (by kernel_rfl) (by kernel_rfl) (by kernel_rfl) (fun _ _ _ h => h) (Or.inl ⟨by kernel_rfl, by intro w h; have h := h.1; have h0 := h.1; have h1 := h.2; go_simp⟩) hS0 ?_
          refine wpAnyH_take (i := 9) (v := .slice (some ⟨g, 0, none⟩) n cap) rfl (by kernel_rfl) (by kernel_rfl) (by kernel_rfl) (fun _ _ _ h => h) (Or.inl ⟨by kernel_rfl, by intro w _; go_simp⟩) hS0 ?_
          refine wpAnyH_take (i := 10) (v := .int .i64 (p : Nat)) rfl (by kernel_rfl) (by kernel_rfl) (by kernel_rfl) (fun _ _ _ h => h) (Or.inl ⟨by kernel_rfl, by intro w _; go_simp⟩) hS0 ?_
          refine wpAnyH_take (i := 11) (v := .int .i64 (q : Nat)) rfl (by kernel_rfl) (by kernel_rfl) (by kernel_rfl) (fun _ _ _ h => h) (Or.inl ⟨by kernel_rfl, by intro w _; go_simp⟩) hS0 ?_
          refine wpAnyH_take (i := 12) (v := .pointer (some ⟨g, q * 2, none⟩)) rfl (by kernel_rfl) (by kernel_rfl) (by kernel_rfl) (fun _ _ _ h => h) (Or.inl ⟨by kernel_rfl, by intro w _; go_simp⟩) hS0 ?_
          refine wpAnyH_take (i := 13) (v := .agg #[.int .i64 (y1 : Nat), .slice y2 y4 y5]) rfl (by kernel_rfl) (by kernel_rfl) (by kernel_rfl) (fun _ _ _ h => h) (Or.inl ⟨by kernel_rfl, by intro w h; have h := h.2; have h0 := h.1; have h1 := h.2; go_simp⟩) hS0 ?_
          refine wpAnyH_one (i := 14) (by kernel_rfl) rfl (by kernel_rfl) (fun K'' hK' => ?_)
          go_simp
          refine (HC.out _).mono ?_
          rintro e w2 ⟨rfl, hf2⟩
          have hf2 : Fr No wr w2 := (Fr.refl No wr).drew.trans hf2
          have hS0 : (w2.cell? ⟨g, p * 2, none⟩ = some (.int .i64 (x1 : Nat)) ∧ w2.cell? ⟨g, p * 2 + 1, none⟩ = some (.slice x2 x4 x5)) ∧ (w2.cell? ⟨g, q * 2, none⟩ = some (.int .i64 (y1 : Nat)) ∧ w2.cell? ⟨g, q * 2 + 1, none⟩ = some (.slice y2 y4 y5)) := HR2.out.fr HGL.out hf2
          refine hK' _ _ hS0 ?_
          clear hK' K''
          refine wpAnyH_take (i := 15) (v := .bool t) rfl (by kernel_rfl) (by kernel_rfl) (by kernel_rfl) (fun _ _ _ h => h) (Or.inl ⟨by kernel_rfl, by intro w _; go_simp⟩) hS0 ?_
          refine wpAnyH_take (i := 16) (v := .bool t) rfl (by kernel_rfl) (by kernel_rfl) (by kernel_rfl) (fun _ _ _ h => h) (Or.inl ⟨by kernel_rfl, by intro w _; go_simp⟩) hS0 ?_
          refine wpAnyH_done (by kernel_rfl) ?_ _
          simp only [List.getElem_toArray, List.getElem_cons_succ, List.getElem_cons_zero]
          go_frame
          have HRW2 := hide (HRW.out.fr hf2 (no_no _))
          have HF2 := hide (HFJ.out.trans hf2.of_no)
          have HN2 := hide hf2
          clear hr2 hf2
          cases t with
          | true =>
            have hxy : x1 < y1 := by have := HT.out; simpa using this.symm
            obtain ⟨⟨c0, c1⟩, ⟨d0, d1⟩⟩ := hS0
            have f0 := HRW2.out.fz (p * 2)
            have f1 := HRW2.out.fz (p * 2 + 1)
            have g0 := HRW2.out.fz (q * 2)
            have g1 := HRW2.out.fz (q * 2 + 1)
            obtain ⟨cur', hr', hN'⟩ := HRW2.out.swap HPL.out.1 HPL.out.2 (by have := HPQ.out; have := HQQ.out; omega)
            rw [HX.out.1, HX.out.2] at hr'
            have HR' := hide hr'
            have HF' := hide (swpW_fr (g := g) HF2.out (fun _ => rfl) p q (x1, (x2, x4, x5), x3) (y1, (y2, y4, y5), y3))
            have HN' := hide hN'
            clear hr' hN'
            go_wp2_with fail
            go_region
            go_wp2
            refine ⟨⟨j', by omega, ?_, HST.out hxy _ ⟨cur', HR'.out.fr ((Fr.refl No _).drew) (no_no _), HN'.out.trans HCN.out⟩, HF'.out.drew⟩, ?_⟩
            · have := HQQ.out; rw [← this]
            · have := HQQ.out; have := HPQ.out; simp [intOf]; omega
          | false =>
            have hxy : ¬ x1 < y1 := by have := HT.out; simpa using this.symm
            have HD : Hid (InsO w2 g N A M B (k + 1)) := ins_done (HJ.out.no HN2.out) HSd.out HSt.out hSl.out hSR.out (fun S1 z S2 e1 e2 => by have := HLAST.out S1 z S2 e1 e2; subst this; show y1 ≤ x1; omega)
            go_wp2_with fail
            refine ⟨⟨k + 1, ?_, by omega, ?_, HD.out, HF2.out⟩, ?_⟩
            · congr 1; have := HIA.out; omega
            · right; have := HIA.out; omega
            · simp [intOf]; omega
        · have hj00 : j = 0 := by omega
          subst hj00
          have hpa : p = a := by omega
          have hng : ¬ (a : Int) < (p : Int) := by omega
          have HD : Hid (InsO wr g N A M B (k + 1)) := ins_done HJ.out HSd.out HSt.out hSl.out hSR.out (fun S1 z S2 e1 e2 => by omega)
          have HPA := hide hpa
          have HPP := hide hp
          clear hp hpa hj0
          go_upto_region 4 with fail
          refine wp_region_held (S := fun _ => True) (by kernel_rfl) ?_
          change wpAnyH _ _ _ _ _ _ _ _ (World.drew _)
          refine wpAnyH_take (i := 0) (v := .int .i64 (p : Nat)) rfl (by kernel_rfl) (by kernel_rfl) (by kernel_rfl) (fun _ _ _ h => h) (Or.inl ⟨by kernel_rfl, by intro w _; go_simp⟩) trivial ?_
          refine wpAnyH_take (i := 1) (v := .int .i64 (a : Nat)) rfl (by kernel_rfl) (by kernel_rfl) (by kernel_rfl) (fun _ _ _ h => h) (Or.inl ⟨by kernel_rfl, by intro w _; go_simp⟩) trivial ?_
          refine wpAnyH_take (i := 2) (v := .bool false) rfl (by kernel_rfl) (by kernel_rfl) (by kernel_rfl) (fun _ _ _ h => h) (Or.inl ⟨by kernel_rfl, by intro w _; go_simp⟩) trivial ?_
          refine wpAnyH_take (i := 3) (v := .bool false) rfl (by kernel_rfl) (by kernel_rfl) (by kernel_rfl) (fun _ _ _ h => h) (Or.inl ⟨by kernel_rfl, by intro w _; go_simp⟩) trivial ?_
          refine wpAnyH_take (i := 4) (v := undef) rfl (by kernel_rfl) (by kernel_rfl) (by kernel_rfl) (fun _ _ _ h => h) (Or.inr ⟨by kernel_rfl, rfl⟩) trivial ?_
          refine wpAnyH_take (i := 5) (v := undef) rfl (by kernel_rfl) (by kernel_rfl) (by kernel_rfl) (fun _ _ _ h => h) (Or.inr ⟨by kernel_rfl, rfl⟩) trivial ?_
          refine wpAnyH_take (i := 6) (v := undef) rfl (by kernel_rfl) (by kernel_rfl) (by kernel_rfl) (fun _ _ _ h => h) (Or.inr ⟨by kernel_rfl, rfl⟩) trivial ?_
          refine wpAnyH_take (i := 7) (v := undef) rfl (by kernel_rfl) (by kernel_rfl) (by kernel_rfl) (fun _ _ _ h => h) (Or.inr ⟨by kernel_rfl, rfl⟩) trivial ?_
          refine wpAnyH_take (i := 8) (v := undef) rfl (by kernel_rfl) (by kernel_rfl) (by kernel_rfl) (fun _ _ _ h => h) (Or.inr ⟨by kernel_rfl, rfl⟩) trivial ?_
          refine wpAnyH_take (i := 9) (v := undef) rfl (by kernel_rfl) (by kernel_rfl) (by kernel_rfl) (fun _ _ _ h => h) (Or.inr ⟨by kernel_rfl, rfl⟩) trivial ?_
          refine wpAnyH_take (i := 10) (v := undef) rfl (by kernel_rfl) (by kernel_rfl) (by kernel_rfl) (fun _ _ _ h => h) (Or.inr ⟨by kernel_rfl, rfl⟩) trivial ?_
          refine wpAnyH_take (i := 11) (v := undef) rfl (by kernel_rfl) (by kernel_rfl) (by kernel_rfl) (fun _ _ _ h => h) (Or.inr ⟨by kernel_rfl, rfl⟩) trivial ?_
          refine wpAnyH_take (i := 12) (v := undef) rfl (by kernel_rfl) (by kernel_rfl) (by kernel_rfl) (fun _ _ _ h => h) (Or.inr ⟨by kernel_rfl, rfl⟩) trivial ?_
          refine wpAnyH_take (i := 13) (v := undef) rfl (by kernel_rfl) (by kernel_rfl) (by kernel_rfl) (fun _ _ _ h => h) (Or.inr ⟨by kernel_rfl, rfl⟩) trivial ?_
          refine wpAnyH_take (i := 14) (v := undef) rfl (by kernel_rfl) (by kernel_rfl) (by kernel_rfl) (fun _ _ _ h => h) (Or.inr ⟨by kernel_rfl, rfl⟩) trivial ?_
          refine wpAnyH_take (i := 15) (v := undef) rfl (by kernel_rfl) (by kernel_rfl) (by kernel_rfl) (fun _ _ _ h => h) (Or.inr ⟨by kernel_rfl, rfl⟩) trivial ?_
          refine wpAnyH_take (i := 16) (v := .bool false) rfl (by kernel_rfl) (by kernel_rfl) (by kernel_rfl) (fun _ _ _ h => h) (Or.inl ⟨by kernel_rfl, by intro w _; go_simp⟩) trivial ?_
          refine wpAnyH_done (by kernel_rfl) ?_ _
          simp only [List.getElem_toArray, List.getElem_cons_succ, List.getElem_cons_zero]
          go_frame
          go_wp2
          refine ⟨⟨k + 1, ?_, by omega, ?_, ?_, HFJ.out.drew⟩, ?_⟩
          · congr 1; have := HIA.out; omega
          · right; have := HIA.out; omega
          · obtain ⟨S', R', h1, h2⟩ := HD.out
            exact ⟨S', R', h1.fr ((Fr.refl No _).drew) (no_no _), h2⟩
          · simp [intOf]; omega
    · go_wp2
      go_end0
      refine ⟨rfl, ins_end HS.out ?_, HF.out⟩
      have := HM.out
      omega
end Go.Proofs.YtjjjlilflbddoaaDoor
/-
  Two sorted rows merged in place: the mathematics.
-/
namespace Go.Proofs.YtjjjlilflbddoaaDoor
open Go.RowKit Pm

theorem mrg_cut {α : Type} {P1 P2 Q1 Q2 : List (Nat × α)} (hP : Sd (P1 ++ P2)) (hQ : Sd (Q1 ++ Q2)) (h1 : ∀ x ∈ P1, ∀ y ∈ Q2, x.1 ≤ y.1) (h2 : ∀ x ∈ P2, ∀ y ∈ Q1, y.1 < x.1) : mrg (P1 ++ P2) (Q1 ++ Q2) = mrg P1 Q1 ++ mrg P2 Q2 := by
  have hP' := List.pairwise_append.1 hP
  have hQ' := List.pairwise_append.1 hQ
  refine (sorted_mrg hP hQ ?_ ?_).symm
  · refine List.pairwise_append.2 ⟨sd_mrg hP'.1 hQ'.1, sd_mrg hP'.2.1 hQ'.2.1, fun x hx y hy => ?_⟩
    rcases mem_mrg.1 hx with hx | hx <;> rcases mem_mrg.1 hy with hy | hy
    · exact hP'.2.2 x hx y hy
    · exact h1 x hx y hy
    · exact Nat.le_of_lt (h2 y hy x hx)
    · exact hQ'.2.2 x hx y hy
  · have e1 : St ((P1 ++ P2) ++ (Q1 ++ Q2)) ((P1 ++ Q1) ++ (P2 ++ Q2)) := by
      have h3 : St (P2 ++ Q1) (Q1 ++ P2) := St.swap (fun a ha b hb => by have := h2 a ha b hb; omega)
      have h4 := ((St.refl P1).app h3).app (St.refl Q2)
      simpa using h4
    exact e1.trans ((st_mrg hP'.1).app (st_mrg hP'.2.1))
theorem mrg_first {α : Type} {x : Nat × α} {Q1 Q2 : List (Nat × α)} (hQ : Sd (Q1 ++ Q2)) (h1 : ∀ y ∈ Q1, y.1 < x.1) (h2 : ∀ y ∈ Q2, x.1 ≤ y.1) : mrg [x] (Q1 ++ Q2) = Q1 ++ x :: Q2 := by
  have hQ' := List.pairwise_append.1 hQ
  have e1 := mrg_cut (P1 := []) (P2 := [x]) (Q1 := Q1) (Q2 := Q2) (by simp [Sd]) hQ (fun y hy => by simp at hy) (fun y hy z hz => by rw [List.mem_singleton.1 hy]; exact h1 z hz)
  have e2 := mrg_cut (P1 := [x]) (P2 := []) (Q1 := []) (Q2 := Q2) (by simp [Sd]) hQ'.2.1 (fun y hy z hz => by rw [List.mem_singleton.1 hy]; exact h2 z hz) (fun y hy => by simp at hy)
  simp only [List.nil_append, List.append_nil, nil_mrg, mrg_nil] at e1 e2
  rw [e1, e2]
  rfl
theorem mrg_last {α : Type} {y : Nat × α} {P1 P2 : List (Nat × α)} (hP : Sd (P1 ++ P2)) (h1 : ∀ x ∈ P1, x.1 ≤ y.1) (h2 : ∀ x ∈ P2, y.1 < x.1) : mrg (P1 ++ P2) [y] = P1 ++ y :: P2 := by
  have hP' := List.pairwise_append.1 hP
  have e1 := mrg_cut (P1 := P1) (P2 := P2) (Q1 := [y]) (Q2 := []) hP (by simp [Sd]) (fun x _ z hz => by simp at hz) (fun x hx z hz => by rw [List.mem_singleton.1 hz]; exact h2 x hx)
  have e2 := mrg_cut (P1 := P1) (P2 := []) (Q1 := []) (Q2 := [y]) (by rw [List.append_nil]; exact hP'.1) (by simp [Sd]) (fun x hx z hz => by rw [List.mem_singleton.1 hz]; exact h1 x hx) (fun x hx => by simp at hx)
  simp only [List.nil_append, List.append_nil, nil_mrg, mrg_nil] at e1 e2
  rw [e1, e2]
  simp
theorem sd_get {l : List El} (h : Sd l) {i j : Nat} (hij : i ≤ j) (hj : j < l.length) : (l.getD i ed).1 ≤ (l.getD j ed).1 := by
  by_cases e : i = j
  · rw [e]; exact Nat.le_refl _
  · rw [List.getD, List.getD, List.getElem?_eq_getElem (by omega), List.getElem?_eq_getElem hj]
    exact List.pairwise_iff_getElem.1 h i j (by omega) hj (by omega)
theorem mem_take_get {l : List El} {k : Nat} {x : El} (h : x ∈ l.take k) : ∃ i, i < k ∧ i < l.length ∧ l.getD i ed = x := by
  obtain ⟨i, hi, e⟩ := List.getElem_of_mem h
  rw [List.length_take] at hi
  rw [List.getElem_take] at e
  exact ⟨i, by omega, by omega, by rw [List.getD, List.getElem?_eq_getElem (by omega), e]; rfl⟩
theorem mem_drop_get {l : List El} {k : Nat} {x : El} (h : x ∈ l.drop k) : ∃ i, k ≤ i ∧ i < l.length ∧ l.getD i ed = x := by
  obtain ⟨i, hi, e⟩ := List.getElem_of_mem h
  rw [List.length_drop] at hi
  rw [List.getElem_drop] at e
  exact ⟨k + i, by omega, by omega, by rw [List.getD, List.getElem?_eq_getElem (by omega), e]; rfl⟩
/-- Where an element of the middle stands. -/
theorem get_mid (A M B : List El) (i : Nat) (h : i < M.length) : (A ++ M ++ B).getD (A.length + i) ed = M.getD i ed := by
  rw [List.getD, List.getElem?_append_left (by rw [List.length_append]; omega), List.getElem?_append_right (by omega), show A.length + i - A.length = i by omega, List.getD]
theorem get_P (A P Q B : List El) (i : Nat) (h : i < P.length) : (A ++ P ++ Q ++ B).getD (A.length + i) ed = P.getD i ed := by
  rw [show A ++ P ++ Q ++ B = A ++ P ++ (Q ++ B) by simp]; exact get_mid A P (Q ++ B) i h
theorem get_Q (A P Q B : List El) (i : Nat) (h : i < Q.length) : (A ++ P ++ Q ++ B).getD (A.length + P.length + i) ed = Q.getD i ed := by
  rw [show A.length + P.length = (A ++ P).length by simp]; exact get_mid (A ++ P) Q B i h
/-- x goes up behind those that are less: one place. -/
theorem up_step (A L R : List El) (x : El) (t : Nat) (h : t < L.length) : swp (A ++ L.take t ++ x :: (L.drop t ++ R)) (A.length + t) (A.length + t + 1) = A ++ L.take (t + 1) ++ x :: (L.drop (t + 1) ++ R)
    ∧ (A ++ L.take t ++ x :: (L.drop t ++ R)).getD (A.length + t) ed = x ∧ (A ++ L.take t ++ x :: (L.drop t ++ R)).getD (A.length + t + 1) ed = L.getD t ed := by
  have hL : L.drop t = L.getD t ed :: L.drop (t + 1) := by rw [List.getD, List.getElem?_eq_getElem h, Option.getD_some, List.drop_eq_getElem_cons h]
  have tL : L.take (t + 1) = L.take t ++ [L.getD t ed] := by rw [List.take_add_one, List.getD, List.getElem?_eq_getElem h]; rfl
  have n1 : (A ++ L.take t).length = A.length + t := by rw [List.length_append, List.length_take]; omega
  have hs := swp_app (A ++ L.take t) [] (L.drop (t + 1) ++ R) x (L.getD t ed)
  rw [n1] at hs
  rw [hL]
  refine ⟨?_, ?_, ?_⟩
  · rw [tL]
    simpa using hs
  · rw [← n1, List.getD, List.getElem?_append_right (Nat.le_refl _), Nat.sub_self]; rfl
  · rw [← n1, List.getD, List.getElem?_append_right (by omega), show ∀ a : Nat, a + 1 - a = 1 from fun a => by omega]; rfl
/-- y goes down ahead of those that are greater: one place. -/
theorem down_step (A L R : List El) (y : El) (t : Nat) (h : t < L.length) : swp (A ++ L.take (t + 1) ++ y :: (L.drop (t + 1) ++ R)) (A.length + t + 1) (A.length + t) = A ++ L.take t ++ y :: (L.drop t ++ R)
    ∧ (A ++ L.take (t + 1) ++ y :: (L.drop (t + 1) ++ R)).getD (A.length + t + 1) ed = y ∧ (A ++ L.take (t + 1) ++ y :: (L.drop (t + 1) ++ R)).getD (A.length + t) ed = L.getD t ed := by
  have hL : L.drop t = L.getD t ed :: L.drop (t + 1) := by rw [List.getD, List.getElem?_eq_getElem h, Option.getD_some, List.drop_eq_getElem_cons h]
  have tL : L.take (t + 1) = L.take t ++ [L.getD t ed] := by rw [List.take_add_one, List.getD, List.getElem?_eq_getElem h]; rfl
  have n1 : (A ++ L.take t).length = A.length + t := by rw [List.length_append, List.length_take]; omega
  have hs := swp_app (A ++ L.take t) [] (L.drop (t + 1) ++ R) (L.getD t ed) y
  rw [n1] at hs
  have e : A ++ L.take (t + 1) ++ y :: (L.drop (t + 1) ++ R) = (A ++ L.take t) ++ L.getD t ed :: ([] ++ y :: (L.drop (t + 1) ++ R)) := by rw [tL]; simp
  rw [e]
  refine ⟨?_, ?_, ?_⟩
  · rw [swp_sym _ (by omega), hL]
    simpa using hs
  · rw [← n1, List.getD, List.getElem?_append_right (by omega), show ∀ a : Nat, a + 1 - a = 1 from fun a => by omega]; rfl
  · rw [← n1, List.getD, List.getElem?_append_right (Nat.le_refl _), Nat.sub_self]; rfl
end Go.Proofs.YtjjjlilflbddoaaDoor
