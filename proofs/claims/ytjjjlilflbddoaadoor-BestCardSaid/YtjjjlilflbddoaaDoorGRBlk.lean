import Derived.Test.YtjjjlilflbddoaaDoorRLens
namespace Go.Proofs.YtjjjlilflbddoaaDoor
open Go.RowKit

theorem rbit_any (B rb : Nat) (K : List Nat) (d : List UInt8) (lim : Nat) (x : Rf.D) (w : World) (s : DS) (h : RL B rb K d lim x w s) (h0 : x.st = 0) :
    Calls Tryd.prog 63 #[.pointer (some ⟨rb, 0, none⟩)] w fun e w' => Fr (One rb) w w' ∧ ∃ v p' t' s', e = .returned (.int .i64 (v : Nat)) ∧ v < 2 ∧ RL B rb K d lim { x with pos := p', st := t' } w' s' ∧
      ((t' = 0 ∧ Gz.num d 1 x.pos = .ok (v, p')) ∨ (t' = 2 ∧ Gz.num d 1 x.pos = .error 2)) := by
  have hp := h.pos h0
  have hs := h.sh0 h0
  unfold Gz.num
  by_cases hl : x.pos + 1 ≤ 8 * d.length
  · refine (rbit_ok rb s d w h.da h.hd h.dlen hs (by omega)).mono ?_
    rintro e w' ⟨rfl, hr, hf⟩
    rw [hp.1] at hr ⊢
    have hst := h.step h0 hf _ hr (by omega) hl
    rw [show ({ x with pos := x.pos + 1 } : Rf.D) = { x with pos := x.pos + 1, st := 0 } by rw [h0]] at hst
    refine ⟨hf, Gz.bitv d x.pos, x.pos + 1, 0, _, rfl, bitv_lt _ _, hst, Or.inl ⟨rfl, ?_⟩⟩
    rw [if_pos hl]
    simp [Gz.val]
  · refine (rbit_no rb s d w h.da h.hd h.dlen (Or.inr (by omega))).mono ?_
    rintro e w' ⟨rfl, hr, hf⟩
    have e1 : ({ s with sh := true } : DS) = s.bad s.pos 2 := by unfold DS.bad; rw [show (2 == 2) = true from rfl, if_pos rfl, h.er0 h0]
    rw [e1] at hr
    exact ⟨hf, 0, x.pos, 2, _, rfl, by omega, h.bad' hf s.pos 2 (by omega) hr, Or.inr ⟨rfl, by rw [if_neg hl]⟩⟩

/-- How block comes to its end. -/
def RBlkP (B rb : Nat) (K : List Nat) (d : List UInt8) (lim : Nat) (w : World) (r : Rf.D × Bool) (e : Ending) (w' : World) : Prop :=
  Fr (Own B K) w w' ∧ e = .returned (.bool r.2) ∧ ∃ L s', RL B rb (L ++ K) d lim r.1 w' s'

theorem lens_fixA : Lens Rf.fixedA := by
  intro i hi
  have : Rf.fixedA.length = 288 := by unfold Rf.fixedA; rw [List.length_map, List.length_range]
  unfold Rf.fixedA
  rw [List.getD, List.getElem?_map, List.getElem?_range (by omega)]
  simp [Gz.fixedLen]
  split <;> (try split) <;> (try split) <;> (try split) <;> omega
theorem lens_fixB : Lens Rf.fixedB := by
  intro i _
  unfold Rf.fixedB
  rw [List.getD, List.getElem?_replicate]
  split <;> simp

set_option maxRecDepth 100000 in
set_option maxHeartbeats 12800000 in
theorem rblock_any (B rb : Nat) (K : List Nat) (d : List UInt8) (lim : Nat) (x : Rf.D) (w : World) (s : DS) (h : RL B rb K d lim x w s) (h0 : x.st = 0) (hO : OrdAt w) (hB : 11 < B) :
    Calls Tryd.prog 43 #[.pointer (some ⟨rb, 0, none⟩)] w (RBlkP B rb K d lim w (Rf.block d lim x)) := by
  have hdl := h.dlen
  have hp := h.pos h0
  have hrbl := h.da.lt
  have hbsz := h.bsz
  have hbrb := h.brb
  have k1 := h.da.c1
  rw [hp.1] at k1
  have HU : Hid (Rf.block d lim x = match (Gz.num d 1 x.pos).bind fun a p1 => (Gz.num d 2 p1).bind fun k p2 => .ok ((a, k), p2) with
    | .error k => ({ x with st := k }, false)
    | .ok ((a, k), p2) =>
      if k = 3 then ({ x with st := 3, pos := p2 }, false)
      else if k = 0 then (Rf.stored d lim { x with pos := p2, kinds := x.kinds ++ [0] }, a == 1)
      else if k = 1 then (Rf.syms d lim ⟨Gz.makeCode Rf.fixedA, Gz.makeCode Rf.fixedB⟩ { x with pos := p2, kinds := x.kinds ++ [1] }, a == 1)
      else match Rf.lens d p2 with
        | .error k => ({ x with st := k, kinds := x.kinds ++ [2] }, a == 1)
        | .ok ((l, f), p3) => (Rf.syms d lim ⟨Gz.makeCode l, Gz.makeCode f⟩ { x with pos := p3, kinds := x.kinds ++ [2], keys := x.keys ++ [l ++ f] }, a == 1)) := by unfold Hid Rf.block; rfl
  have HN1 := hide (rbit_any B rb K d lim x w s h h0)
  have HH := hide h
  have H0 := hide h0
  have HO := hide hO
  clear h h0 hO
  generalize Rf.block d lim x = R at *
  go_enter Tryd.func43, Tryd.ntmps43
  go_wp2_with fail
  refine HN1.out.mono ?_
  rintro e w1 ⟨hf1, v1, p1, t1, s1, rfl, hv1, hL1, hr1⟩
  have HN2 := hide (rnum_u B rb 2 K d lim p1 t1 x w1 s1 hL1 (by rcases hr1 with h | h; exact Or.inl h.1; exact Or.inr h.1) (by omega) (by omega))
  have HF1 := hide hf1
  have HR1 := hide hr1
  clear hf1 hL1 hr1 HN1
  go_wp2_with fail
  refine HN2.out.mono ?_
  rintro e w2 ⟨hf2, v2, p2, t2, s2, rfl, hv2, hL2, _, hr2⟩
  have HF2 := hide (HF1.out.trans hf2)
  have HL2 := hide hL2
  have hsz2 := HF2.out.size
  have hcase : (t2 = 2 ∧ R = ({ x with st := 2 }, false)) ∨ (t2 = 0 ∧ Gz.num d 1 x.pos = .ok (v1, p1) ∧ Gz.num d 2 p1 = .ok (v2, p2)) := by
    rcases HR1.out with ⟨a1, a2⟩ | ⟨a1, a2⟩
    · rcases hr2 with ⟨_, c1, c2⟩ | ⟨c1, c2⟩
      · exact Or.inr ⟨c1, a2, c2⟩
      · refine Or.inl ⟨c1, ?_⟩
        rcases c2 with c2 | c2
        · omega
        · rw [HU.out, a2]; simp only [Gz.Out.bind]; rw [c2]
    · have ht2 : t2 = 2 := by rcases hr2 with h | h; omega; exact h.1
      exact Or.inl ⟨ht2, by rw [HU.out, a2]; rfl⟩
  clear hf2 hL2 hr2 HN2 HR1
  rcases hcase with ⟨ht2, hR⟩ | ⟨ht2, q1, q2⟩
  · subst ht2
    have k2 : w2.cell? ⟨rb, 2, none⟩ = some (.bool true) := by rw [HL2.out.da.c2, HL2.out.sh]; rfl
    have k1' := HL2.out.da.c1
    have e1' := HL2.out.da.fz 1
    have HR := hide hR
    clear hR HU
    go_wp2
    go_ret
    have hf3 := one_set rb 1 w2 (.int .i64 (x.pos : Nat))
    have hL3 := HL2.out.of (x' := { x with st := 2 }) hf3 (HL2.out.da.s1 (x.pos : Nat) x.pos rfl) rfl rfl rfl rfl rfl rfl rfl rfl HL2.out.sh HL2.out.er (fun e => by simp at e)
    rw [HR.out]
    exact ⟨HH.out.one (HF2.out.trans hf3), rfl, [], _, hL3⟩
  · subst ht2
    have hb2 := num_val q2
    have hxp : x.pos + 3 = p2 := by have := (num_ok q1).1; have := (num_ok q2).1; omega
    have hp28 := (num_ok q2).2
    have hU2 : R = if v2 = 3 then ({ x with st := 3, pos := p2 }, false)
      else if v2 = 0 then (Rf.stored d lim { x with pos := p2, kinds := x.kinds ++ [0] }, v1 == 1)
      else if v2 = 1 then (Rf.syms d lim ⟨Gz.makeCode Rf.fixedA, Gz.makeCode Rf.fixedB⟩ { x with pos := p2, kinds := x.kinds ++ [1] }, v1 == 1)
      else match Rf.lens d p2 with
        | .error k => ({ x with st := k, kinds := x.kinds ++ [2] }, v1 == 1)
        | .ok ((l, f), p3) => (Rf.syms d lim ⟨Gz.makeCode l, Gz.makeCode f⟩ { x with pos := p3, kinds := x.kinds ++ [2], keys := x.keys ++ [l ++ f] }, v1 == 1) := by
      rw [HU.out, q1]; simp only [Gz.Out.bind]; rw [q2]
    have HU2 := hide hU2
    have k2 : w2.cell? ⟨rb, 2, none⟩ = some (.bool false) := by rw [HL2.out.da.c2, HL2.out.sh]; rfl
    clear q1 q2 hU2 HU
    by_cases h3 : v2 = 3
    · have HR : Hid (R = ({ x with st := 3, pos := p2 }, false)) := by unfold Hid; rw [HU2.out, if_pos h3]
      subst h3
      have k3 := HL2.out.da.c3
      have e3 := HL2.out.da.fz 3
      go_wp2
      go_ret
      have hf3 := one_set rb 3 w2 (.int .i64 3)
      have hL3 := HL2.out.of (x' := { x with st := 3, pos := p2 }) hf3 (HL2.out.da.s3 3 3 rfl) rfl rfl rfl rfl rfl rfl rfl rfl HL2.out.sh rfl (fun e => by simp at e)
      rw [HR.out]
      exact ⟨HH.out.one (HF2.out.trans hf3), rfl, [], _, hL3⟩
    · have e3' : ((v2 : Int) == 3) = false := by rw [beq_eq_false_iff_ne]; omega
      have HU3 : Hid (R = if v2 = 0 then (Rf.stored d lim { x with pos := p2, kinds := x.kinds ++ [0] }, v1 == 1)
          else if v2 = 1 then (Rf.syms d lim ⟨Gz.makeCode Rf.fixedA, Gz.makeCode Rf.fixedB⟩ { x with pos := p2, kinds := x.kinds ++ [1] }, v1 == 1)
          else match Rf.lens d p2 with
            | .error k => ({ x with st := k, kinds := x.kinds ++ [2] }, v1 == 1)
            | .ok ((l, f), p3) => (Rf.syms d lim ⟨Gz.makeCode l, Gz.makeCode f⟩ { x with pos := p3, kinds := x.kinds ++ [2], keys := x.keys ++ [l ++ f] }, v1 == 1)) := by unfold Hid; rw [HU2.out, if_neg h3]
      obtain ⟨ks, hrw, hkk⟩ := HL2.out.rows
      obtain ⟨i0, hi, hz0, hz1, hz2⟩ := info_parts rinfo3
      obtain ⟨an, cn, hnv⟩ := HL2.out.form 2
      have hnv : s2.nv = .slice an x.kinds.length cn := hnv
      have k8 : w2.cell? ⟨rb, 8, none⟩ = some (.slice an x.kinds.length cn) := by rw [HL2.out.da.c8]; exact congrArg some hnv
      have hbsz2 := HL2.out.bsz
      have hlt2 := HL2.out.da.lt
      have HNV := hide hnv
      have HRW := hide hrw
      have HKS := hide hkk
      have H3 := hide h3
      clear hnv hrw hkk HU2 h3
      go_wp2_with (at_builtin; refine wpList_append_lies _ rfl (.tmp 35) (.tmp 37) 30 rfl B 3 i0 (.int .i64 0) 1 8 Tryd.underlying30 hi hz0 hz1 hz2 rfl (by decide) (.slice an x.kinds.length cn) x.kinds.length (x.kinds.map iv) rfl ?hown ⟨w2.heap.size, 0, none⟩ 1 1 [iv v2] rfl rfl ?hnews ?h1 (by decide) ?h63 ?hb ?hbase _ rfl ?hK)
      case hown => exact ownsRow_fr (S := No) (HNV.out ▸ HRW.out.row 2) ((Fr.refl _ _).alloc _) (fun _ _ => no_no _)
      case hnews => first | exact (fun j u h => h) | (intro j u hj; match j, hj with | 0, hj => simp at hj; subst hj; exact cell_of (alloc_at w2 _) 0)
      case h1 => first | rfl | (intro u hu; simp at hu; subst hu; rfl)
      case h63 => unfold maxLen; omega
      case hb => omega
      case hbase => first | omega | (simp; omega)
      case hK =>
        intro g cap w3 hown hgrow hat hlt3
        have hgrow' : World.grownBy _ w3 (s2.row 2).ownBlock := (show s2.row 2 = _ from HNV.out) ▸ hgrow
        have hfo : Fr (fun k => some k = (s2.row 2).ownBlock) w2 w3 := ((Fr.refl _ _).alloc _).trans ⟨hgrow'.os, hgrow'.tape, hgrow'.output, hgrow'.size, fun k hk hs => hgrow'.block k hk hs⟩
        have hr3 : Da w3 rb s2 := HL2.out.da.fr hfo (fun e => (HRW.out.far 2 rb e.symm).1 rfl)
        have k8' := hr3.c8
        have e8' := hr3.fz 8
        have hg := HL2.out.grown (x' := { x with pos := p2, st := 0, kinds := x.kinds ++ [v2] }) (s' := { s2 with nv := .slice (some ⟨g, 0, none⟩) (x.kinds.length + 1) cap }) 2 g cap (x.kinds.length + 1) _ w3 ((Fr.refl _ _).alloc _) hgrow'
          (by rcases hat with h | h
              · exact Or.inl (by rw [show s2.row 2 = s2.nv from rfl, HNV.out]; exact h)
              · exact Or.inr (by rw [h]; simp)) ks ks HRW.out (HL2.out.keys 2 _ w3 ((Fr.refl _ _).alloc _) hgrow' ks HRW.out HKS.out) rfl
          (by show w3.ownsRow B 3 1 (.slice (some ⟨g, 0, none⟩) (x.kinds.length + 1) cap) (x.kinds ++ [v2]).length ((x.kinds ++ [v2]).map iv)
              simpa using hown)
          (fun i hi => by match i, hi with | 0, _ => rfl | 1, _ => rfl | 3, _ => rfl | 2, h => exact absurd rfl h)
          (fun i hi => by match i, hi with | 0, _ => rfl | 1, _ => rfl | 3, _ => rfl | 2, h => exact absurd rfl h)
          (fun i hi => by match i, hi with | 0, _ => rfl | 1, _ => rfl | 3, _ => rfl | 2, h => exact absurd rfl h)
          (hr3.s8 _) rfl rfl rfl HL2.out.sh HL2.out.er (fun _ => by have hp2 := HL2.out.pos rfl; exact ⟨hp2.1, hp2.2.1, hp2.2.2.1, by show (x.kinds ++ [v2]).length ≤ p2; rw [List.length_append]; simp; omega, hp2.2.2.2.2⟩) HL2.out.len
        obtain ⟨hg1, hg2⟩ := hg
        have HL3 := hide hg1
        have HF3 := hide ((HH.out.one HF2.out).trans hg2)
        clear hg1 hg2 hown hgrow hgrow' hat hfo hr3
        by_cases hv0 : v2 = 0
        · subst hv0
          have HR : Hid (R = (Rf.stored d lim { x with pos := p2, st := 0, kinds := x.kinds ++ [0] }, v1 == 1)) := by
            unfold Hid; rw [HU3.out, if_pos rfl]
            rw [show ({ x with pos := p2, kinds := x.kinds ++ [0] } : Rf.D) = { x with pos := p2, st := 0, kinds := x.kinds ++ [0] } by rw [← H0.out]]
          go_wp2_with fail
          refine (rstored_any B rb K d lim _ _ _ HL3.out rfl).mono ?_
          rintro e w4 ⟨rfl, ⟨s4, hL4⟩, hf4⟩
          have HL4 := hide hL4
          have HF4 := hide hf4
          clear hL4 hf4
          go_wp2_with fail
          go_ret
          rw [HR.out]
          refine ⟨HF3.out.trans HF4.out, ret_one (congrArg Value.bool ?_), [], s4, HL4.out⟩
          rw [Bool.eq_iff_iff]; simp; omega
        · have e0' : ((v2 : Int) == 0) = false := by rw [beq_eq_false_iff_ne]; omega
          have HL4 : Hid (RL B rb K d lim { x with pos := p2, st := 0, kinds := x.kinds ++ [v2] } (w3.setCell ⟨rb, 8, none⟩ (.slice (some ⟨g, 0, none⟩) (x.kinds.length + 1) cap)) { s2 with nv := .slice (some ⟨g, 0, none⟩) (x.kinds.length + 1) cap }) := HL3.out
          have HF4 : Hid (Fr (Own B K) w (w3.setCell ⟨rb, 8, none⟩ (.slice (some ⟨g, 0, none⟩) (x.kinds.length + 1) cap))) := HF3.out
          clear HL3 HF3
          go_wp2_with fail
          clear k8' e8'
          generalize w3.setCell ⟨rb, 8, none⟩ (.slice (some ⟨g, 0, none⟩) (x.kinds.length + 1) cap) = w4 at *
          refine (rfixed_any w4).mono ?_
          rintro e w5 ⟨tv, uv, rfl, hrA, hrB, hap, hf5⟩
          have hFA : Rf.fixedA.length = 288 := by unfold Rf.fixedA; rw [List.length_map, List.length_range]
          have hFB : Rf.fixedB.length = 32 := by unfold Rf.fixedB; rw [List.length_replicate]
          obtain ⟨ga, ca, rfl, _, hga, hcela⟩ := irow_cells hrA (by omega)
          obtain ⟨gb, cb, rfl, _, hgb, hcelb⟩ := irow_cells hrB (by omega)
          have hgal := (hcela 0 (by omega)).1
          have hgbl := (hcelb 0 (by omega)).1
          have HF5 := hide (HF4.out.trans hf5.of_no)
          have hf5' := hf5
          by_cases hv1 : v2 = 1
          · have HRF : Hid (R = (Rf.syms d lim ⟨Gz.makeCode Rf.fixedA, Gz.makeCode Rf.fixedB⟩ { x with pos := p2, st := 0, kinds := x.kinds ++ [v2] }, v1 == 1)) := by
              unfold Hid; rw [HU3.out, if_neg hv0, if_pos hv1, hv1]
              rw [show ({ x with pos := p2, kinds := x.kinds ++ [1] } : Rf.D) = { x with pos := p2, st := 0, kinds := x.kinds ++ [1] } by rw [← H0.out]]
            have e2' : ((v2 : Int) == 2) = false := by rw [beq_eq_false_iff_ne]; omega
            obtain ⟨LF, hLF⟩ : ∃ LF, LF = [ga, gb] := ⟨_, rfl⟩
            obtain ⟨KF, hKF⟩ : ∃ KF, KF = LF ++ K := ⟨_, rfl⟩
            have hLL := HL4.out.more (L := LF) hf5 (fun k hk => by rw [hLF] at hk; simp at hk ⊢; rcases hk with rfl | rfl <;> omega)
            rw [← hKF] at hLL
            have HLF := hide hLL
            have HBA : Hid (ga ∈ KF) := by unfold Hid; rw [hKF, hLF]; simp
            have HBB : Hid (gb ∈ KF) := by unfold Hid; rw [hKF, hLF]; simp
            have HIA : Hid (Ins w5 ga (.slice (some ⟨ga, 0, none⟩) Rf.fixedA.length ca) Rf.fixedA) := ⟨_, 0, ca, rfl, fun i hi => ⟨rfl, (hcela i hi).1, by rw [Nat.zero_add]; exact (hcela i hi).2⟩⟩
            have HIB : Hid (Ins w5 gb (.slice (some ⟨gb, 0, none⟩) Rf.fixedB.length cb) Rf.fixedB) := ⟨_, 0, cb, rfl, fun i hi => ⟨rfl, (hcelb i hi).1, by rw [Nat.zero_add]; exact (hcelb i hi).2⟩⟩
            have HLA := hide lens_fixA
            have HLB := hide lens_fixB
            have hA4 : Rf.fixedA.length ≤ 400 := by omega
            have hA0 : 0 < Rf.fixedA.length := by omega
            have hB4 : Rf.fixedB.length ≤ 400 := by omega
            have hB0 : 0 < Rf.fixedB.length := by omega
            have HKF := hide hKF
            have HFF := HF5
            clear hLL hKF hLF hcela hcelb hrA hrB hap hf5 hf5' HU3
            generalize hAx : Rf.fixedA = A at *
            generalize hBx : Rf.fixedB = Bq at *
            clear hAx hBx hFA hFB
            -- context: HLF, HBA, HBB, HIA, HIB, HLA, HLB, hA4, hA0, hB4, hB0, HRF, HFF, HKF
            have HCA := hide (rcoded_any ga _ A w5 HIA.out HLA.out hA4 hA0)
            go_wp2_with fail
            refine (rok_good HLF.out rfl).mono ?_
            rintro e w' ⟨rfl, hw⟩
            obtain rfl := hw.symm
            go_wp2_with fail
            refine HCA.out.mono ?_
            rintro e w6 ⟨gs, hgs, rfl, hgsc, hf6⟩
            have hb6 := alloc_at w6 (.cells #[.slice (some ⟨ga, 0, none⟩) A.length ca, .slice (some ⟨gs, 0, none⟩) A.length A.length] 117)
            have hf6a : Fr No w5 (w6.alloc (.cells #[.slice (some ⟨ga, 0, none⟩) A.length ca, .slice (some ⟨gs, 0, none⟩) A.length A.length] 117)) := hf6.alloc _
            have HCB := hide (rcoded_any gb _ Bq _ (HIB.out.fr hf6a (no_no _)) HLB.out hB4 hB0)
            have hsz6 := hf6.size
            have hgsl := lt_of hgsc
            have HF6 := hide hf6a
            have HB6 := hide hb6
            have HG6 := hide (alloc_old (o' := .cells #[.slice (some ⟨ga, 0, none⟩) A.length ca, .slice (some ⟨gs, 0, none⟩) A.length A.length] 117) hgsc)
            clear hf6a hb6 hf6 hgsc
            go_wp2_with fail
            refine HCB.out.mono ?_
            rintro e w7 ⟨gf, hgf, rfl, hgfc, hf7⟩
            have hf7a : Fr No (w6.alloc (.cells #[.slice (some ⟨ga, 0, none⟩) A.length ca, .slice (some ⟨gs, 0, none⟩) A.length A.length] 117)) (w7.alloc (.cells #[.slice (some ⟨gb, 0, none⟩) Bq.length cb, .slice (some ⟨gf, 0, none⟩) Bq.length Bq.length] 117)) := hf7.alloc _
            have hbx1 := hf7a.at HB6.out (no_no _)
            have hbx2 := alloc_at w7 (.cells #[.slice (some ⟨gb, 0, none⟩) Bq.length cb, .slice (some ⟨gf, 0, none⟩) Bq.length Bq.length] 117)
            have hgs7 := hf7a.at HG6.out (no_no _)
            have hgf7 := alloc_old (o' := .cells #[.slice (some ⟨gb, 0, none⟩) Bq.length cb, .slice (some ⟨gf, 0, none⟩) Bq.length Bq.length] 117) hgfc
            have hfF := HF6.out.trans hf7a
            have hszF := hf7.size
            have hszG : (w6.alloc (.cells #[.slice (some ⟨ga, 0, none⟩) A.length ca, .slice (some ⟨gs, 0, none⟩) A.length A.length] 117)).heap.size = w6.heap.size + 1 := by simp
            have hgfl := lt_of hgfc
            have hL8 := HLF.out.more (L := [gs, gf]) hfF (fun k hk => by simp at hk ⊢; rcases hk with rfl | rfl <;> omega)
            obtain ⟨K8, hK8⟩ : ∃ K8, K8 = [gs, gf] ++ KF := ⟨_, rfl⟩
            rw [← hK8] at hL8
            have hc1 : CodeIn (w7.alloc (.cells #[.slice (some ⟨gb, 0, none⟩) Bq.length cb, .slice (some ⟨gf, 0, none⟩) Bq.length Bq.length] 117)) K8 (.agg #[.slice (some ⟨ga, 0, none⟩) A.length ca, .slice (some ⟨gs, 0, none⟩) A.length A.length]) A :=
              ⟨ga, gs, _, _, rfl, by rw [hK8]; exact List.mem_append.2 (Or.inr HBA.out), by rw [hK8]; simp, HIA.out.fr hfF (no_no _), ins_ivs hgs7 (codes_len A).symm, HLA.out, hA4, hA0⟩
            have hc2 : CodeIn (w7.alloc (.cells #[.slice (some ⟨gb, 0, none⟩) Bq.length cb, .slice (some ⟨gf, 0, none⟩) Bq.length Bq.length] 117)) K8 (.agg #[.slice (some ⟨gb, 0, none⟩) Bq.length cb, .slice (some ⟨gf, 0, none⟩) Bq.length Bq.length]) Bq :=
              ⟨gb, gf, _, _, rfl, by rw [hK8]; exact List.mem_append.2 (Or.inr HBB.out), by rw [hK8]; simp, HIB.out.fr hfF (no_no _), ins_ivs hgf7 (codes_len Bq).symm, HLB.out, hB4, hB0⟩
            have HSY := hide (rsymbols_any B rb K8 d lim _ _ _ _ _ A Bq hL8 rfl hc1 hc2)
            have x0 := cell_of hbx1 0
            have x1 := cell_of hbx1 1
            have y0 := cell_of hbx2 0
            have y1 := cell_of hbx2 1
            have HFG := hide (HFF.out.trans hfF.of_no)
            have HK8 := hide hK8
            clear hf7a hbx1 hbx2 hgs7 hgf7 hfF hL8 hc1 hc2 hgfc hf7 hK8 HB6 HG6 HF6 HCA HCB
            go_wp2_with fail
            refine HSY.out.mono ?_
            rintro e w9 ⟨rfl, ⟨L9, s9, hL9⟩, hf9⟩
            have HL9 := hide hL9
            have HF9 := hide hf9
            clear hL9 hf9 x0 x1 y0 y1 HSY
            go_wp2_with fail
            go_ret
            rw [HRF.out]
            rw [HK8.out, HKF.out] at HL9 HF9
            refine ⟨HFG.out.trans HF9.out.less.less, ret_one (congrArg Value.bool ?_), L9 ++ ([gs, gf] ++ LF), s9, ?_⟩
            · rw [Bool.eq_iff_iff]; simp; omega
            · have := HL9.out
              rw [show (L9 ++ ([gs, gf] ++ LF)) ++ K = L9 ++ ([gs, gf] ++ (LF ++ K)) by simp [List.append_assoc]]
              exact this
          · have HU4 : Hid (R = match Rf.lens d p2 with
                | .error k => ({ x with st := k, kinds := x.kinds ++ [2] }, v1 == 1)
                | .ok ((l, f), p3) => (Rf.syms d lim ⟨Gz.makeCode l, Gz.makeCode f⟩ { x with pos := p3, kinds := x.kinds ++ [2], keys := x.keys ++ [l ++ f] }, v1 == 1)) := by unfold Hid; rw [HU3.out, if_neg hv0, if_neg hv1]
            have hv2e : v2 = 2 := by have := H3.out; omega
            subst hv2e
            have HOR5 : OrdAt w5 := HO.out.fr HF5.out (fun e => by have := e.1; omega) (by omega)
            have HLN := hide (rlengths_any B rb K d lim _ w5 _ (HL4.out.no hf5) rfl HOR5 hB (by show x.keys.length < p2; omega))
            clear hcela hcelb hrA hrB hap hf5 HU3 HOR5 hv1 hv0
            go_wp2_with fail
            refine HLN.out.mono ?_
            rintro e w6 ⟨hf6, hres⟩
            have HFF := hide (HF5.out.trans hf6)
            clear hf6 HLN
            cases hln : Rf.lens d p2 with
            | error k =>
              simp only [hln] at hres
              obtain ⟨hk0, rfl, L6, s6, hL6⟩ := hres
              have HRF : Hid (R = ({ x with st := k, kinds := x.kinds ++ [2] }, v1 == 1)) := by unfold Hid; rw [HU4.out, hln]
              have HL6 := hide hL6
              clear hL6 hln HU4
              go_wp2_with fail
              refine (rok_bad HL6.out hk0).mono ?_
              rintro e w' ⟨rfl, hw⟩
              obtain rfl := hw.symm
              go_wp2_with fail
              go_ret
              rw [HRF.out]
              refine ⟨HFF.out, ret_one (congrArg Value.bool ?_), L6, s6, ?_⟩
              · rw [Bool.eq_iff_iff]; simp; omega
              · exact HL6.out.of (Fr.refl _ _) HL6.out.da rfl rfl rfl rfl rfl rfl rfl rfl HL6.out.sh HL6.out.er (fun e => absurd e hk0)
            | ok okk =>
              obtain ⟨⟨A, Bq⟩, q⟩ := okk
              simp only [hln] at hres
              obtain ⟨LF, sF, va, vb, ba, bb, rfl, hLL, hba, hbb, hia, hib, hla, hlb, hA6, hB6⟩ := hres
              have HRF : Hid (R = (Rf.syms d lim ⟨Gz.makeCode A, Gz.makeCode Bq⟩ { x with pos := q, st := 0, kinds := x.kinds ++ [2], keys := x.keys ++ [A ++ Bq] }, v1 == 1)) := by
                unfold Hid; rw [HU4.out, hln]; dsimp only
                rw [show ({ x with pos := q, kinds := x.kinds ++ [2], keys := x.keys ++ [A ++ Bq] } : Rf.D) = { x with pos := q, st := 0, kinds := x.kinds ++ [2], keys := x.keys ++ [A ++ Bq] } by rw [← H0.out]]
              obtain ⟨KF, hKF⟩ : ∃ KF, KF = LF ++ K := ⟨_, rfl⟩
              rw [← hKF] at hLL
              have HLF := hide hLL
              have HBA : Hid (ba ∈ KF) := by unfold Hid; rw [hKF]; exact List.mem_append.2 (Or.inl hba)
              have HBB : Hid (bb ∈ KF) := by unfold Hid; rw [hKF]; exact List.mem_append.2 (Or.inl hbb)
              have HIA := hide hia
              have HIB := hide hib
              have HLA := hide hla
              have HLB := hide hlb
              have hA4 : A.length ≤ 400 := by omega
              have hA0 : 0 < A.length := by omega
              have hB4 : Bq.length ≤ 400 := by omega
              have hB0 : 0 < Bq.length := by omega
              have HKF := hide hKF
              clear hLL hKF hba hbb hia hib hla hlb hln HU4 hA6 hB6
              -- context: HLF, HBA, HBB, HIA, HIB, HLA, HLB, hA4, hA0, hB4, hB0, HRF, HFF, HKF
              obtain ⟨aA, oA, cA, rfl, _⟩ := HIA.out
              obtain ⟨aB, oB, cB, rfl, _⟩ := HIB.out
              have HCA := hide (rcoded_any ba _ A w6 HIA.out HLA.out hA4 hA0)
              go_wp2_with fail
              refine (rok_good HLF.out rfl).mono ?_
              rintro e w' ⟨rfl, hw⟩
              obtain rfl := hw.symm
              go_wp2_with fail
              refine HCA.out.mono ?_
              rintro e w7 ⟨gs, hgs, rfl, hgsc, hf6⟩
              have hb6 := alloc_at w7 (.cells #[.slice aA A.length cA, .slice (some ⟨gs, 0, none⟩) A.length A.length] 117)
              have hf6a : Fr No w6 (w7.alloc (.cells #[.slice aA A.length cA, .slice (some ⟨gs, 0, none⟩) A.length A.length] 117)) := hf6.alloc _
              have HCB := hide (rcoded_any bb _ Bq _ (HIB.out.fr hf6a (no_no _)) HLB.out hB4 hB0)
              have hsz6 := hf6.size
              have hgsl := lt_of hgsc
              have HF6 := hide hf6a
              have HB6 := hide hb6
              have HG6 := hide (alloc_old (o' := .cells #[.slice aA A.length cA, .slice (some ⟨gs, 0, none⟩) A.length A.length] 117) hgsc)
              clear hf6a hb6 hf6 hgsc
              go_wp2_with fail
              refine HCB.out.mono ?_
              rintro e w8 ⟨gf, hgf, rfl, hgfc, hf7⟩
              have hf7a : Fr No (w7.alloc (.cells #[.slice aA A.length cA, .slice (some ⟨gs, 0, none⟩) A.length A.length] 117)) (w8.alloc (.cells #[.slice aB Bq.length cB, .slice (some ⟨gf, 0, none⟩) Bq.length Bq.length] 117)) := hf7.alloc _
              have hbx1 := hf7a.at HB6.out (no_no _)
              have hbx2 := alloc_at w8 (.cells #[.slice aB Bq.length cB, .slice (some ⟨gf, 0, none⟩) Bq.length Bq.length] 117)
              have hgs7 := hf7a.at HG6.out (no_no _)
              have hgf7 := alloc_old (o' := .cells #[.slice aB Bq.length cB, .slice (some ⟨gf, 0, none⟩) Bq.length Bq.length] 117) hgfc
              have hfF := HF6.out.trans hf7a
              have hszF := hf7.size
              have hszG : (w7.alloc (.cells #[.slice aA A.length cA, .slice (some ⟨gs, 0, none⟩) A.length A.length] 117)).heap.size = w7.heap.size + 1 := by simp
              have hgfl := lt_of hgfc
              have hL8 := HLF.out.more (L := [gs, gf]) hfF (fun k hk => by simp at hk ⊢; rcases hk with rfl | rfl <;> omega)
              obtain ⟨K8, hK8⟩ : ∃ K8, K8 = [gs, gf] ++ KF := ⟨_, rfl⟩
              rw [← hK8] at hL8
              have hc1 : CodeIn (w8.alloc (.cells #[.slice aB Bq.length cB, .slice (some ⟨gf, 0, none⟩) Bq.length Bq.length] 117)) K8 (.agg #[.slice aA A.length cA, .slice (some ⟨gs, 0, none⟩) A.length A.length]) A :=
                ⟨ba, gs, _, _, rfl, by rw [hK8]; exact List.mem_append.2 (Or.inr HBA.out), by rw [hK8]; simp, HIA.out.fr hfF (no_no _), ins_ivs hgs7 (codes_len A).symm, HLA.out, hA4, hA0⟩
              have hc2 : CodeIn (w8.alloc (.cells #[.slice aB Bq.length cB, .slice (some ⟨gf, 0, none⟩) Bq.length Bq.length] 117)) K8 (.agg #[.slice aB Bq.length cB, .slice (some ⟨gf, 0, none⟩) Bq.length Bq.length]) Bq :=
                ⟨bb, gf, _, _, rfl, by rw [hK8]; exact List.mem_append.2 (Or.inr HBB.out), by rw [hK8]; simp, HIB.out.fr hfF (no_no _), ins_ivs hgf7 (codes_len Bq).symm, HLB.out, hB4, hB0⟩
              have HSY := hide (rsymbols_any B rb K8 d lim _ _ _ _ _ A Bq hL8 rfl hc1 hc2)
              have x0 := cell_of hbx1 0
              have x1 := cell_of hbx1 1
              have y0 := cell_of hbx2 0
              have y1 := cell_of hbx2 1
              have HFG := hide (HFF.out.trans hfF.of_no)
              have HK8 := hide hK8
              clear hf7a hbx1 hbx2 hgs7 hgf7 hfF hL8 hc1 hc2 hgfc hf7 hK8 HB6 HG6 HF6 HCA HCB
              go_wp2_with fail
              refine HSY.out.mono ?_
              rintro e w9 ⟨rfl, ⟨L9, s9, hL9⟩, hf9⟩
              have HL9 := hide hL9
              have HF9 := hide hf9
              clear hL9 hf9 x0 x1 y0 y1 HSY
              go_wp2_with fail
              go_ret
              rw [HRF.out]
              rw [HK8.out, HKF.out] at HL9 HF9
              refine ⟨HFG.out.trans HF9.out.less.less, ret_one (congrArg Value.bool ?_), L9 ++ ([gs, gf] ++ LF), s9, ?_⟩
              · rw [Bool.eq_iff_iff]; simp; omega
              · have := HL9.out
                rw [show (L9 ++ ([gs, gf] ++ LF)) ++ K = L9 ++ ([gs, gf] ++ (LF ++ K)) by simp [List.append_assoc]]
                exact this
end Go.Proofs.YtjjjlilflbddoaaDoor
namespace Go.Proofs.YtjjjlilflbddoaaDoor
open Go.RowKit

theorem put_kinds (lim : Nat) (x : Rf.D) (c : UInt8) : (Rf.put lim x c).kinds = x.kinds := by unfold Rf.put; split <;> rfl
theorem copyN_kinds (lim far : Nat) : ∀ (n : Nat) (x : Rf.D), (Rf.copyN lim far n x).kinds = x.kinds
  | 0, x => rfl
  | n + 1, x => by
    unfold Rf.copyN
    split
    · rw [copyN_kinds lim far n, put_kinds]
    · rfl
theorem copied_kinds (d : List UInt8) (lim : Nat) (fc : Gz.Code) (sy : Nat) (x : Rf.D) : (Rf.copied d lim fc sy x).kinds = x.kinds := by
  unfold Rf.copied
  split
  · rfl
  · split
    · rfl
    · split
      · rfl
      · rw [copyN_kinds]
theorem symStep_kinds (d : List UInt8) (lim : Nat) (t : Gz.Table) (x : Rf.D) : (Rf.symStep d lim t x).1.kinds = x.kinds := by
  unfold Rf.symStep
  split
  · rfl
  · split
    · rfl
    · split
      · exact put_kinds _ _ _
      · exact copied_kinds _ _ _ _ _
theorem symsN_kinds (d : List UInt8) (lim : Nat) (t : Gz.Table) : ∀ (n : Nat) (x : Rf.D), (Rf.symsN d lim t n x).kinds = x.kinds
  | 0, x => rfl
  | n + 1, x => by
    unfold Rf.symsN
    split
    · split
      · exact symStep_kinds _ _ _ _
      · rw [symsN_kinds d lim t n, symStep_kinds]
    · rfl
theorem bytesN_kinds (d : List UInt8) (lim : Nat) : ∀ (n : Nat) (x : Rf.D), (Rf.bytesN d lim n x).kinds = x.kinds
  | 0, x => rfl
  | n + 1, x => by
    unfold Rf.bytesN
    split
    · split
      · rfl
      · rw [bytesN_kinds d lim n, put_kinds]
    · rfl
theorem stored_kinds (d : List UInt8) (lim : Nat) (x : Rf.D) : (Rf.stored d lim x).kinds = x.kinds := by
  unfold Rf.stored
  split
  · rfl
  · split
    · rfl
    · rw [bytesN_kinds]
theorem out_bind_bad {α β : Type} {r : Gz.Out α} {f : α → Nat → Gz.Out β} {k : Nat} (h : r.bind f = .error k) : (r = .error k) ∨ ∃ a p, r = .ok (a, p) ∧ f a p = .error k := by
  cases r with
  | error j => left; injection (show (Except.error j : Gz.Out β) = .error k from h) with e; rw [e]
  | ok o => obtain ⟨a, p⟩ := o; right; exact ⟨a, p, rfl, h⟩
/-- A block that went on has told its kind. -/
theorem block_kinds (d : List UInt8) (lim : Nat) (x : Rf.D) (h : (Rf.block d lim x).1.st = 0) (hl : ∀ k, Rf.lens d (x.pos + 3) = .error k → k ≠ 0) : (Rf.block d lim x).1.kinds.length = x.kinds.length + 1 := by
  obtain ⟨r, hr⟩ : ∃ r, r = Rf.block d lim x := ⟨_, rfl⟩
  rw [← hr] at h ⊢
  unfold Rf.block at hr
  split at hr
  · rename_i k hk
    exfalso
    subst hr
    have h : k = 0 := h
    rcases out_bind_bad hk with e | ⟨a, p, _, e⟩
    · unfold Gz.num at e; split at e; cases e; injection e with e; omega
    · rcases out_bind_bad e with e | ⟨_, _, _, e⟩
      · unfold Gz.num at e; split at e; cases e; injection e with e; omega
      · cases e
  · rename_i a k p2 hk
    have hp2 : p2 = x.pos + 3 := by
      cases h1 : Gz.num d 1 x.pos with
      | error _ => rw [h1] at hk; cases hk
      | ok o =>
        obtain ⟨b, q⟩ := o
        rw [h1] at hk
        simp only [Gz.Out.bind] at hk
        cases h2 : Gz.num d 2 q with
        | error _ => rw [h2] at hk; cases hk
        | ok o2 =>
          obtain ⟨c, q2⟩ := o2
          rw [h2] at hk
          injection hk with hk; injection hk with _ hk
          have := (num_ok h1).1; have := (num_ok h2).1; omega
    split at hr
    · subst hr; exact absurd h (by show ¬ 3 = 0; omega)
    · split at hr
      · subst hr; show (Rf.stored _ _ _).kinds.length = _; rw [stored_kinds]; simp
      · split at hr
        · subst hr; show (Rf.symsN _ _ _ _ _).kinds.length = _; rw [symsN_kinds]; simp
        · split at hr
          · rename_i k' hk'
            rw [hp2] at hk'
            subst hr
            exact absurd h (hl k' hk')
          · subst hr; show (Rf.symsN _ _ _ _ _).kinds.length = _; rw [symsN_kinds]; simp

def kindsOf (rb : Nat) (w : World) : Nat := match w.cell? ⟨rb, 8, none⟩ with
  | some v => lenOf v
  | none => 0
/-- How many blocks may be left. -/
def leftK (rb N : Nat) (w : World) : Nat := if flagOf (w.cell? ⟨rb, 2, none⟩) = false ∧ numOf (w.cell? ⟨rb, 3, none⟩) = 0 ∧ flagOf (w.cell? ⟨rb, 4, none⟩) = false then N + 1 - kindsOf rb w else 0
theorem RL.leftK {B rb : Nat} {K : List Nat} {d : List UInt8} {lim : Nat} {x : Rf.D} {w : World} {s : DS} (h : RL B rb K d lim x w s) (N : Nat) : leftK rb N w = if x.st = 0 then N + 1 - x.kinds.length else 0 := by
  unfold Proofs.YtjjjlilflbddoaaDoor.leftK
  have hk : kindsOf rb w = x.kinds.length := by
    obtain ⟨a, c, e⟩ := h.form 2
    have e : s.nv = .slice a x.kinds.length c := e
    unfold kindsOf; rw [h.da.c8, e]; rfl
  rw [h.da.c2, h.da.c3, h.da.c4, hk]
  by_cases h0 : x.st = 0
  · rw [if_pos h0, if_pos ⟨by show s.sh = false; exact h.sh0 h0, by show ((s.er : Nat) : Int) = 0; rw [h.er0 h0]; rfl, by show s.dn = false; exact h.dn⟩]
  · rw [if_neg h0, if_neg]
    rintro ⟨h1, h2, _⟩
    have h1 : s.sh = false := h1
    have h2 : ((s.er : Nat) : Int) = 0 := h2
    have h3 := h.sh
    have h4 := h.er
    rw [h1] at h3
    have h5 : x.st ≠ 2 := fun e => by rw [e] at h3; cases h3
    rw [if_neg h5] at h4
    omega
theorem leftK_done {rb : Nat} {w : World} {s : DS} (h : Da w rb s) (hd : s.dn = true) (N : Nat) : leftK rb N w = 0 := by
  unfold leftK
  rw [if_neg]
  rintro ⟨_, _, h3⟩
  rw [h.c4] at h3
  have h3 : s.dn = false := h3
  rw [hd] at h3; cases h3

def DS.fresh (t : ByteArray) (lim : Nat) : DS := { s := t, pos := 0, sh := false, er := 0, dn := false, lim := lim, ov := .slice none 0 0, kv := .slice none 0 0, nv := .slice none 0 0, tv := .slice none 0 0 }

theorem rl_start (t : ByteArray) (lim : Nat) (w : World) (hn : t.size ≤ 4000) (hl : lim ≤ 6000) : RL w.heap.size w.heap.size [] t.data.toList lim Rf.start (w.alloc (.cells (DS.fresh t lim).cells 55)) (DS.fresh t lim) := by
  refine ⟨alloc_at w _, rfl, rfl, rfl, rfl, fun _ => ⟨rfl, Nat.zero_le _, Nat.le_refl _, Nat.le_refl _, Nat.le_refl _⟩, ⟨[], ⟨fun j => ?_, fun i j b hi hj => ?_, fun j b hb => ?_⟩, fun i hi => ?_⟩, rfl, by simp, Nat.le_refl _, by simp, fun k hk => by simp at hk, hl, Nat.zero_le _, by simpa using hn, fun k hk => by simp at hk⟩
  · match j with | 0 => exact ⟨rfl, Or.inl ⟨rfl, rfl⟩⟩ | 1 => exact ⟨rfl, Or.inl ⟨rfl, rfl⟩⟩ | 2 => exact ⟨rfl, Or.inl ⟨rfl, rfl⟩⟩ | 3 => exact ⟨rfl, Or.inl ⟨rfl, rfl⟩⟩
  · match i with | 0 => cases hi | 1 => cases hi | 2 => cases hi | 3 => cases hi
  · match j with | 0 => cases hb | 1 => cases hb | 2 => cases hb | 3 => cases hb
  · exact absurd hi (Nat.not_lt_zero _)

/-- How Read comes to its end. -/
def RReadP (d : List UInt8) (lim : Nat) (w : World) (r : Rf.D × Bool) (e : Ending) (w' : World) : Prop :=
  e = .returned (.pointer (some ⟨w.heap.size, 0, none⟩)) ∧ Fr No w w' ∧ ∃ K s1 w1, RL w.heap.size w.heap.size K d lim r.1 w1 s1 ∧ Da w' w.heap.size { s1 with dn := r.2 } ∧ Fr (One w.heap.size) w1 w'

set_option maxRecDepth 100000 in
set_option maxHeartbeats 6400000 in
theorem rread_any (t : ByteArray) (lim : Nat) (w : World) (hO : OrdAt w) (hG : 11 < w.heap.size) (hn : t.size ≤ 4000) (hl : lim ≤ 6000) (hlen : ∀ p k, Rf.lens t.data.toList p = .error k → k ≠ 0) :
    Calls Tryd.prog 23 #[.string t, .int .i64 lim] w (RReadP t.data.toList lim w (Rf.read t.data.toList lim)) := by
  have HL0 := hide (rl_start t lim w hn hl)
  have hfa : Fr No w (w.alloc (.cells (DS.fresh t lim).cells 55)) := (Fr.refl _ _).alloc _
  obtain ⟨R, hR⟩ : ∃ R, R = Rf.read t.data.toList lim := ⟨_, rfl⟩
  rw [← hR]
  obtain ⟨d, hd⟩ : ∃ d, d = t.data.toList := ⟨_, rfl⟩
  rw [← hd] at HL0 hlen hR ⊢
  have HR : Hid (Rf.readN d lim (8 * d.length + 1) Rf.start = R) := hR.symm
  have HO := hide hO
  have HFA := hide hfa
  have HLN := hide hlen
  have HDD := hide hd
  clear hR hO hfa hlen hd
  have hdl : d.length ≤ 4000 := HL0.out.dlen
  go_enter Tryd.func23, Tryd.ntmps23
  go_wp2_with fail
  go_loopw [6] (fun _ wr => ((∃ (K : List Nat) (y : Rf.D) (s' : DS) (m : Nat), RL w.heap.size w.heap.size K d lim y wr s' ∧ Hid (y.st = 0 → 8 * d.length + 1 - y.kinds.length ≤ m ∧ Rf.readN d lim m y = R) ∧ Hid (y.st ≠ 0 → R = (y, false))) ∨ (∃ (K : List Nat) (y : Rf.D) (s1 : DS) (w1 : World), RL w.heap.size w.heap.size K d lim y w1 s1 ∧ y.st = 0 ∧ Da wr w.heap.size { s1 with dn := true } ∧ Fr (One w.heap.size) w1 wr ∧ Hid (R = (y, true)))) ∧ Fr No w wr) (fun _ wr => leftK w.heap.size (8 * d.length) wr)
  case atStart => exact ⟨Or.inl ⟨[], Rf.start, DS.fresh t lim, 8 * d.length + 1, HL0.out, fun _ => ⟨by show 8 * d.length + 1 - 0 ≤ _; omega, HR.out⟩, fun e => absurd rfl e⟩, HFA.out⟩
  case round =>
    obtain ⟨hcas, hfr⟩ := hrel
    have hszr := hfr.size
    rcases hcas with ⟨K, y, s', m, hLr, hgo, hend⟩ | ⟨K, y, s1, w1, hL1, hy0, hda, hf1, hend⟩
    · have HLE := hide (hLr.leftK (8 * d.length))
      have hGB : 11 < w.heap.size := by omega
      have HOR : OrdAt wr := HO.out.fr hfr (no_no _) hG
      by_cases hy0 : y.st = 0
      · obtain ⟨hm, hrd⟩ := hgo.out hy0
        have hyp := hLr.pos hy0
        have HOK := hide (rok_good hLr hy0)
        have HBL := hide (rblock_any w.heap.size w.heap.size K d lim y wr s' hLr hy0 HOR hGB)
        have k4 : wr.cell? ⟨w.heap.size, 4, none⟩ = some (.bool false) := by rw [hLr.da.c4, hLr.dn]
        have hbk := block_kinds d lim y
        obtain ⟨m', rfl⟩ : ∃ m', m = m' + 1 := ⟨m - 1, by omega⟩
        have HGO : Hid (R = if (Rf.block d lim y).1.st = 0 then (if (Rf.block d lim y).2 then ((Rf.block d lim y).1, true) else Rf.readN d lim m' (Rf.block d lim y).1) else ((Rf.block d lim y).1, false)) := by
          unfold Hid; rw [← hrd]; conv => lhs; unfold Rf.readN
        have HBK : Hid ((Rf.block d lim y).1.st = 0 → (Rf.block d lim y).1.kinds.length = y.kinds.length + 1) := fun e => block_kinds d lim y e (fun k hk => HLN.out _ k hk)
        have hsame : w.heap.size ≤ w.heap.size := Nat.le_refl _
        clear hgo hend hrd hbk HOR
        generalize Rf.block d lim y = X at *
        go_wp2_with fail
        refine HOK.out.mono ?_
        rintro e w' ⟨rfl, hw⟩
        obtain rfl := hw.symm
        go_wp2_with fail
        refine HBL.out.mono ?_
        rintro e w2 ⟨hf2, rfl, L2, s2, hL2⟩
        have hf2' : Fr No w w2 := ⟨(hf2.os).trans hfr.os, hf2.tape.trans hfr.tape, hf2.output.trans hfr.output, Nat.le_trans hfr.size hf2.size, fun k hk _ => (hf2.block k (by omega) (fun e => by have := e.1; omega)).trans (hfr.block k hk (no_no _))⟩
        have k4' : w2.cell? ⟨w.heap.size, 4, none⟩ = some (.bool false) := by rw [hL2.da.c4, hL2.dn]
        have e4' := hL2.da.fz 4
        have HL2 := hide hL2
        have HF2 := hide hf2'
        clear hL2 hf2 hf2' HBL k4
        obtain ⟨Y, last⟩ := X
        cases last with
        | false =>
          go_wp2_with fail
          have hf3 := one_set w.heap.size 4 w2 (.bool false)
          have hda3 : Da (w2.setCell ⟨w.heap.size, 4, none⟩ (.bool false)) w.heap.size s2 := by
            have := HL2.out.da.s4 false
            rw [show ({ s2 with dn := false } : DS) = s2 by rw [← HL2.out.dn]] at this
            exact this
          have hL3 := HL2.out.of (x' := Y) hf3 hda3 rfl rfl rfl rfl rfl rfl rfl rfl HL2.out.sh HL2.out.er HL2.out.pos
          refine ⟨⟨Or.inl ⟨_, Y, s2, m', hL3, ?_, ?_⟩, HF2.out.setCell (fun e => absurd e (Nat.lt_irrefl _)) _⟩, ?_⟩
          · intro e
            have h1 := HBK.out e
            refine ⟨by have h1 : Y.kinds.length = _ := h1; omega, ?_⟩
            have := HGO.out; rw [if_pos e] at this; exact this.symm
          · intro e; have := HGO.out; rw [if_neg e] at this; exact this
          · rw [HLE.out, if_pos hy0, hL3.leftK]
            by_cases e : Y.st = 0
            · have h1 : Y.kinds.length = y.kinds.length + 1 := HBK.out e
              rw [if_pos e]; omega
            · rw [if_neg e]; omega
        | true =>
          by_cases e : Y.st = 0
          · have HOK2 := hide (rok_good HL2.out e)
            go_wp2_with (go_at_call 42; refine HOK2.out.mono ?_; rintro e w' ⟨rfl, hw⟩; obtain rfl := hw.symm)
            have hf3 := one_set w.heap.size 4 w2 (.bool true)
            have hda3 := HL2.out.da.s4 true
            refine ⟨⟨Or.inr ⟨_, Y, s2, w2, HL2.out, e, hda3, hf3, ?_⟩, HF2.out.setCell (fun e => absurd e (Nat.lt_irrefl _)) _⟩, ?_⟩
            · have := HGO.out; rw [if_pos e] at this; exact this
            · rw [HLE.out, if_pos hy0, leftK_done hda3 rfl]; omega
          · have HOK2 := hide (rok_bad HL2.out e)
            go_wp2_with (go_at_call 42; refine HOK2.out.mono ?_; rintro e w' ⟨rfl, hw⟩; obtain rfl := hw.symm)
            have hf3 := one_set w.heap.size 4 w2 (.bool false)
            have hda3 : Da (w2.setCell ⟨w.heap.size, 4, none⟩ (.bool false)) w.heap.size s2 := by
              have := HL2.out.da.s4 false
              rw [show ({ s2 with dn := false } : DS) = s2 by rw [← HL2.out.dn]] at this
              exact this
            have hL3 := HL2.out.of (x' := Y) hf3 hda3 rfl rfl rfl rfl rfl rfl rfl rfl HL2.out.sh HL2.out.er HL2.out.pos
            refine ⟨⟨Or.inl ⟨_, Y, s2, m', hL3, fun e2 => absurd e2 e, fun _ => ?_⟩, HF2.out.setCell (fun e => absurd e (Nat.lt_irrefl _)) _⟩, ?_⟩
            · have := HGO.out; rw [if_neg e] at this; exact this
            · rw [HLE.out, if_pos hy0, hL3.leftK, if_neg e]; omega
      · have HOK := hide (rok_bad hLr hy0)
        have HE := hide (hend.out hy0)
        go_wp2_with (go_at_call 42; refine HOK.out.mono ?_; rintro e w' ⟨rfl, hw⟩; obtain rfl := hw.symm)
        go_ret
        rw [HE.out]
        refine ⟨rfl, hfr, K, s', wr, ?_, ?_, Fr.refl _ _⟩
        · exact hLr
        · rw [show ({ s' with dn := false } : DS) = s' by rw [← hLr.dn]]; exact hLr.da
    · have hok : s1.good = true := by rw [hL1.good, hy0]; rfl
      have HOK : Hid (Calls Tryd.prog 42 #[.pointer (some ⟨w.heap.size, 0, none⟩)] wr fun e w' => e = .returned (.bool true) ∧ w' = wr) := by
        refine (rok_any w.heap.size _ wr hda).mono ?_
        rw [show ({ s1 with dn := true } : DS).good = true from hok]; exact fun _ _ h => h
      have k4 : wr.cell? ⟨w.heap.size, 4, none⟩ = some (.bool true) := hda.c4
      go_wp2_with (go_at_call 42; refine HOK.out.mono ?_; rintro e w' ⟨rfl, hw⟩; obtain rfl := hw.symm)
      go_ret
      rw [hend.out]
      refine ⟨rfl, hfr, K, s1, w1, ?_, ?_, ?_⟩
      · exact hL1
      · exact hda
      · exact hf1
end Go.Proofs.YtjjjlilflbddoaaDoor
