import Derived.Test.YtjjjlilflbddoaaDoorGRLive
namespace Go.Proofs.YtjjjlilflbddoaaDoor
open Go.RowKit

theorem rinfoT : (Tryd.prog.info? 82).map (fun i => (i.zero, i.size, i.bytes)) = some (some (.agg #[.int .i64 0, .int .i64 0]), 2, 16) := by kernel_rfl

theorem far_pos : ∀ t, t < 30 → 1 ≤ Gz.distFrom.getD t 0 := by decide
/-- What is left: bits, how many were put out. -/
theorem put_pos (lim : Nat) (x : Rf.D) (c : UInt8) : (Rf.put lim x c).pos = x.pos := by unfold Rf.put; split <;> rfl

set_option maxRecDepth 100000 in
set_option maxHeartbeats 6400000 in
theorem rcopied_any (B rb : Nat) (K : List Nat) (d : List UInt8) (lim sy : Nat) (x : Rf.D) (w : World) (s : DS) (v : Value) (l : List Nat) (h : RL B rb K d lim x w s) (h0 : x.st = 0) (hc : CodeIn w K v l) (hsy : 257 ≤ sy) (hsy2 : sy ≤ 400) (hroom : x.toks.length < x.pos) :
    Calls Tryd.prog 100 #[.pointer (some ⟨rb, 0, none⟩), .int .i64 sy, v] w fun e w' => e = .returned (.tuple #[]) ∧ (∃ s', RL B rb K d lim (Rf.copied d lim (Gz.makeCode l) sy x) w' s') ∧ Fr (Own B K) w w' := by
  have hc' := hc
  obtain ⟨bl, bc, lv, cv, rfl, k1, k2, i1, i2, hl, hll, hl0⟩ := hc
  clear i1 i2
  have hdl := h.dlen
  have hp := h.pos h0
  have hrbl := h.da.lt
  by_cases hbig : 285 < sy
  · have HP : Hid (Rf.copied d lim (Gz.makeCode l) sy x = { x with st := 6 }) := by unfold Hid Rf.copied; rw [if_pos hbig]
    have c3 := h.da.c3
    have e3 := h.da.fz 3
    have HH := hide h
    have H0 := hide h0
    clear h hc' h0
    go_enter Tryd.func100, Tryd.ntmps100
    go_wp2
    try simp only [Exit.inBlock, Exit.then]
    refine bodyPost_ret (results_none rfl _ _ _) rfl ?_
    have hf : Fr (One rb) w ((w.setCell ⟨rb, 3, none⟩ (.int .i64 6)).alloc (.cells #[lv, cv] 117)) := (one_set rb 3 w _).alloc _
    refine ⟨rfl, ⟨s.bad s.pos 6, ?_⟩, HH.out.one hf⟩
    rw [HP.out]
    refine HH.out.bad' hf s.pos 6 (by omega) ?_
    rw [show s.bad s.pos 6 = { s with er := 6 } by unfold DS.bad; rw [show (6 == 2) = false from rfl, ← HH.out.sh0 H0.out]; rfl]
    exact (HH.out.da.s3 6 6 rfl).alloc _
  · have HLN := hide (rlength_sy sy hsy (by omega))
    have hlb : Gz.lenBits sy ≤ 5 := by unfold Gz.lenBits; split <;> omega
    have hlf : Gz.lenFrom.getD (sy - 257) 0 ≤ 258 := lenFrom_le (sy - 257)
    have hbox := alloc_at w (.cells #[lv, cv] 117)
    have hfa : Fr No w (w.alloc (.cells #[lv, cv] 117)) := (Fr.refl _ _).alloc _
    have HBX := hide hbox
    have HFA := hide hfa
    have HH := hide h
    have HC := hide hc'
    have H0 := hide h0
    clear h hc' h0 hbox hfa
    have HU : Hid (Rf.copied d lim (Gz.makeCode l) sy x = match Rf.lenDist d (Gz.makeCode l) sy x.pos with
      | .error k => { x with st := k }
      | .ok ((n, far), p2) => if x.out.length < far then { x with st := 7, pos := p2 } else Rf.copyN lim far n { x with pos := p2, toks := x.toks ++ [(n, far)] }) := by
      unfold Hid Rf.copied; rw [if_neg hbig]; rfl
    generalize Rf.copied d lim (Gz.makeCode l) sy x = R at *
    go_enter Tryd.func100, Tryd.ntmps100
    go_wp2_with fail
    refine (HLN.out _).mono ?_
    rintro e w1 ⟨rfl, hf1⟩
    generalize hgb : Gz.lenBits sy = nb at *
    generalize hgf : Gz.lenFrom.getD (sy - 257) 0 = nf at *
    have hbx1 := hf1.at HBX.out (no_no _)
    have hsz1 := (HFA.out.trans hf1).size
    have hf2 : Fr No w (w1.alloc (.cells #[.int .i64 (nf : Nat), .int .i64 (nb : Nat)] 121)) := (HFA.out.trans hf1).alloc _
    have hnum := rnum_any B rb nb K d lim x _ s (HH.out.no hf2) H0.out (by omega)
    have hbx2 := alloc_old (o' := .cells #[.int .i64 (nf : Nat), .int .i64 (nb : Nat)] 121) hbx1
    have hb2 := alloc_at w1 (.cells #[.int .i64 (nf : Nat), .int .i64 (nb : Nat)] 121)
    have HN := hide hnum
    have HF2 := hide hf2
    have HBX2 := hide hbx2
    have HB2 := hide hb2
    have HGB := hide hgb
    have HGF := hide hgf
    clear hnum hf2 hbx2 hb2 hbx1 hf1 HFA HBX hgb hgf
    go_wp2_with fail
    refine HN.out.mono ?_
    rintro e w2 ⟨hf2, hres⟩
    have hbx := hf2.at HBX2.out (one_ne (show w.heap.size ≠ rb by omega))
    have hb1 := hf2.at HB2.out (one_ne (show w1.heap.size ≠ rb by omega))
    have HF := hide (HF2.out.of_no.trans hf2 : Fr (One rb) w w2)
    have HBX := hide hbx
    have HB1 := hide hb1
    clear hf2 hbx hb1 HN HBX2 HB2 HF2
    cases hnum : Gz.num d nb x.pos with
    | error k =>
      rw [hnum] at hres
      obtain ⟨rfl, ⟨vv, hvv, rfl⟩, q, hL⟩ := hres
      have HR : Hid (R = { x with st := 2 }) := by unfold Hid; rw [HU.out]; unfold Rf.lenDist; rw [HGB.out, hnum]; rfl
      have HL := hide hL
      clear hL
      go_wp2_with fail
      refine (rok_any rb _ w2 HL.out.da).mono ?_
      rintro e w3 ⟨rfl, rfl⟩
      rw [HL.out.good]
      go_wp2
      try simp only [Exit.inBlock, Exit.then]
      refine bodyPost_ret (results_none rfl _ _ _) rfl ?_
      refine ⟨rfl, ⟨s.bad q 2, ?_⟩, HH.out.one HF.out⟩
      rw [HR.out]; exact HL.out
    | ok okk =>
      obtain ⟨vv, p1⟩ := okk
      rw [hnum] at hres
      obtain ⟨rfl, hvv, hp1, hpp1, hL⟩ := hres
      have HNU := hide hnum
      have HL := hide hL
      clear hL hnum
      go_wp2_with fail
      refine (rok_any rb _ w2 HL.out.da).mono ?_
      rintro e w3 ⟨rfl, rfl⟩
      rw [HL.out.good, show (({ x with pos := p1 } : Rf.D).st == 0) = true by show (x.st == 0) = true; rw [H0.out]; rfl]
      have x0 := cell_of HBX.out 0
      have x1 := cell_of HBX.out 1
      have hsym := rsym_any B rb K d lim { x with pos := p1 } w3 _ (.agg #[lv, cv]) l HL.out H0.out (HC.out.fr (HH.out.one HF.out))
      have HSY := hide hsym
      clear hsym
      go_wp2_with fail
      refine HSY.out.mono ?_
      rintro e w4 ⟨hf4, hres⟩
      have hb4 := hf4.at HB1.out (one_ne (show w1.heap.size ≠ rb by omega))
      have HB4 := hide hb4
      have HF4 := hide (HF.out.trans hf4)
      clear hb4 hf4 HSY x0 x1
      cases hsy4 : Gz.sym d (Gz.makeCode l) p1 with
      | error k =>
        simp only [hsy4] at hres
        obtain ⟨hk0, rfl, q, hL4⟩ := hres
        have HR : Hid (R = { x with st := k }) := by unfold Hid; rw [HU.out]; unfold Rf.lenDist; rw [HGB.out, HNU.out]; simp only [Gz.Out.bind, Gz.dist]; rw [hsy4]
        have HL4 := hide hL4
        clear hL4 hsy4
        go_wp2_with fail
        refine (rok_any rb _ w4 HL4.out.da).mono ?_
        rintro e w5 ⟨rfl, rfl⟩
        rw [HL4.out.good, show (({ pos := p1, st := k, out := x.out, keys := x.keys, kinds := x.kinds, toks := x.toks } : Rf.D).st == 0) = false by show (k == 0) = false; rw [beq_eq_false_iff_ne]; exact hk0]
        go_wp2
        try simp only [Exit.inBlock, Exit.then]
        refine bodyPost_ret (results_none rfl _ _ _) rfl ?_
        refine ⟨rfl, ⟨DS.bad { s with pos := p1 } q k, ?_⟩, HH.out.one HF4.out⟩
        rw [HR.out]
        exact HL4.out.of (Fr.refl _ _) HL4.out.da rfl rfl rfl rfl rfl rfl rfl rfl HL4.out.sh HL4.out.er (fun e => absurd e hk0)
      | ok okk =>
        obtain ⟨t, p2⟩ := okk
        simp only [hsy4] at hres
        obtain ⟨rfl, htl, hp2, hpp2, hL4⟩ := hres
        have HS4 := hide hsy4
        have HL4 := hide hL4
        clear hL4 hsy4
        go_wp2_with fail
        refine (rok_any rb _ w4 HL4.out.da).mono ?_
        rintro e w5 ⟨rfl, rfl⟩
        rw [HL4.out.good, show (({ pos := p2, st := x.st, out := x.out, keys := x.keys, kinds := x.kinds, toks := x.toks } : Rf.D).st == 0) = true by show (x.st == 0) = true; rw [H0.out]; rfl]
        by_cases ht : 29 < t
        · have HR : Hid (R = { x with st := 6 }) := by unfold Hid; rw [HU.out]; unfold Rf.lenDist; rw [HGB.out, HNU.out]; simp only [Gz.Out.bind, Gz.dist]; rw [HS4.out]; simp only [if_pos ht]
          have c3 := HL4.out.da.c3
          have e3 := HL4.out.da.fz 3
          go_wp2
          try simp only [Exit.inBlock, Exit.then]
          refine bodyPost_ret (results_none rfl _ _ _) rfl ?_
          have hf5 := one_set rb 3 w5 (.int .i64 6)
          refine ⟨rfl, ⟨{ s with pos := p2, er := 6 }, ?_⟩, HH.out.one (HF4.out.trans hf5)⟩
          rw [HR.out]
          exact HL4.out.of hf5 (HL4.out.da.s3 6 6 rfl) rfl rfl rfl rfl rfl rfl rfl rfl (HH.out.sh0 H0.out) rfl (fun e => by simp at e)
        · have hdb : Gz.distBits t ≤ 13 := by unfold Gz.distBits; split <;> omega
          have hdf : Gz.distFrom.getD t 0 ≤ 24577 := farFrom_le t
          have HFAR := hide (rfar_any t (by omega))
          go_wp2_with fail
          refine (HFAR.out _).mono ?_
          rintro e w6 ⟨rfl, hf6⟩
          generalize hgd : Gz.distBits t = db at *
          generalize hgr : Gz.distFrom.getD t 0 = df at *
          have hsz5 := HF4.out.size
          have hsz6 := hf6.size
          have hw1lt := lt_of HB4.out
          have hf7 : Fr No w5 (w6.alloc (.cells #[.int .i64 (df : Nat), .int .i64 (db : Nat)] 121)) := hf6.alloc _
          have hnum := rnum_any B rb db K d lim { x with pos := p2 } _ _ (HL4.out.no hf7) H0.out (by omega)
          have hb7 := alloc_at w6 (.cells #[.int .i64 (df : Nat), .int .i64 (db : Nat)] 121)
          have hb1 := hf7.at HB4.out (no_no _)
          have HN := hide hnum
          have HF7 := hide hf7
          have HB7 := hide hb7
          have HB1' := hide hb1
          have HGD := hide hgd
          have HGR := hide hgr
          clear hnum hf7 hb7 hb1 hf6 hgd hgr
          go_wp2_with fail
          refine HN.out.mono ?_
          rintro e w8 ⟨hf8, hres⟩
          have hb8 := hf8.at HB7.out (one_ne (show w6.heap.size ≠ rb by omega))
          have hb9 := hf8.at HB1'.out (one_ne (show w1.heap.size ≠ rb by omega))
          have HF8 := hide (HF4.out.trans (HF7.out.of_no.trans hf8))
          have y0 := cell_of hb8 0
          have z0 := cell_of hb9 0
          clear hf8 hb8 hb9 HN HB7 HB1' HF7
          cases hnum : Gz.num d db p2 with
          | error k =>
            simp only [hnum] at hres
            obtain ⟨rfl, ⟨v8, hv8, rfl⟩, q, hL8⟩ := hres
            have HR : Hid (R = { x with st := 2 }) := by unfold Hid; rw [HU.out]; unfold Rf.lenDist; rw [HGB.out, HNU.out]; simp only [Gz.Out.bind, Gz.dist]; rw [HS4.out]; simp only [if_neg ht]; rw [HGD.out, hnum]
            have HL8 := hide hL8
            have k2 : w8.cell? ⟨rb, 2, none⟩ = some (.bool true) := hL8.da.c2
            clear hL8 hnum
            go_wp2
            try simp only [Exit.inBlock, Exit.then]
            refine bodyPost_ret (results_none rfl _ _ _) rfl ?_
            refine ⟨rfl, ⟨DS.bad { s with pos := p2 } q 2, ?_⟩, HH.out.one HF8.out⟩
            rw [HR.out]
            exact HL8.out.of (Fr.refl _ _) HL8.out.da rfl rfl rfl rfl rfl rfl rfl rfl HL8.out.sh HL8.out.er (fun e => by simp at e)
          | ok okk =>
            obtain ⟨v8, p3⟩ := okk
            simp only [hnum] at hres
            obtain ⟨rfl, hv8, hp3, hpp3, hL8⟩ := hres
            have HLD : Hid (Rf.lenDist d (Gz.makeCode l) sy x.pos = .ok ((nf + vv, df + v8), p3)) := by
              unfold Hid Rf.lenDist; rw [HGB.out, HNU.out]; simp only [Gz.Out.bind, Gz.dist]; rw [HS4.out]; simp only [if_neg ht]; rw [HGD.out, hnum, HGF.out, HGR.out]
            have hU2 : R = if x.out.length < df + v8 then { x with st := 7, pos := p3 } else Rf.copyN lim (df + v8) (nf + vv) { x with pos := p3, toks := x.toks ++ [(nf + vv, df + v8)] } := by rw [HU.out, HLD.out]
            have HU2 := hide hU2
            have HL8 := hide hL8
            have k2 : w8.cell? ⟨rb, 2, none⟩ = some (.bool false) := by rw [hL8.da.c2]; exact congrArg (fun b => some (Value.bool b)) (HH.out.sh0 H0.out)
            obtain ⟨ao, cap0, hov⟩ := HH.out.form 0
            have hov : s.ov = .slice ao x.out.length cap0 := hov
            have k6 : w8.cell? ⟨rb, 6, none⟩ = some (.slice ao x.out.length cap0) := by rw [hL8.da.c6]; exact congrArg some hov
            have hol := HH.out.len
            have hll6 := HH.out.limle
            have k3 := hL8.da.c3
            have e3 := hL8.da.fz 3
            have HOV := hide hov
            clear hL8 hnum hU2 hov HU HLD
            by_cases hfar : x.out.length < df + v8
            · have HR : Hid (R = { x with st := 7, pos := p3 }) := by unfold Hid; rw [HU2.out, if_pos hfar]
              go_wp2
              try simp only [Exit.inBlock, Exit.then]
              refine bodyPost_ret (results_none rfl _ _ _) rfl ?_
              have hf9 := one_set rb 3 w8 (.int .i64 7)
              refine ⟨rfl, ⟨{ s with pos := p3, er := 7 }, ?_⟩, HH.out.one (HF8.out.trans hf9)⟩
              rw [HR.out]
              exact HL8.out.of hf9 (HL8.out.da.s3 7 7 rfl) rfl rfl rfl rfl rfl rfl rfl rfl (HH.out.sh0 H0.out) rfl (fun e => by simp at e)
            · have HR : Hid (R = Rf.copyN lim (df + v8) (nf + vv) { x with pos := p3, toks := x.toks ++ [(nf + vv, df + v8)] }) := by unfold Hid; rw [HU2.out, if_neg hfar]
              obtain ⟨ks, hrw, hkk⟩ := HL8.out.rows
              obtain ⟨i0, hi, hz0, hz1, hz2⟩ := info_parts rinfoT
              obtain ⟨at_, capt, htv⟩ := HH.out.form 3
              have htv : s.tv = .slice at_ x.toks.length capt := htv
              have k9 : w8.cell? ⟨rb, 9, none⟩ = some (.slice at_ x.toks.length capt) := by rw [HL8.out.da.c9]; exact congrArg some htv
              have hbsz := HL8.out.bsz
              have hlt8 := HL8.out.da.lt
              have HTV := hide htv
              have HRW := hide hrw
              have HKK := hide hkk
              clear htv hrw hkk k3 e3 HU2
              go_wp2_with (at_builtin; refine wpList_append_lies _ rfl (.tmp 70) (.tmp 74) 53 rfl B 82 i0 (.agg #[.int .i64 0, .int .i64 0]) 2 16 Tryd.underlying53 hi hz0 hz1 hz2 rfl (by decide) (.slice at_ x.toks.length capt) x.toks.length (x.toks.flatMap tokv) rfl ?hown ⟨w8.heap.size, 0, none⟩ 1 1 [iv (nf + vv), iv (df + v8)] rfl rfl ?hnews ?h1 (by decide) ?h63 ?hb ?hbase _ rfl ?hK)
              case hown => exact ownsRow_fr (S := No) (HTV.out ▸ HRW.out.row 3) ((Fr.refl _ _).alloc _) (fun _ _ => no_no _)
              case hnews => intro j u hj; match j, hj with | 0, hj => simp at hj; subst hj; exact cell_of (alloc_at w8 _) 0 | 1, hj => simp at hj; subst hj; exact cell_of (alloc_at w8 _) 1
              case h1 => intro u hu; simp at hu; rcases hu with rfl | rfl <;> rfl
              case h63 => unfold maxLen; omega
              case hb => omega
              case hbase => simp; omega
              case hK =>
                intro g cap w9 hown hgrow hat hlt9
                have hgrow' : World.grownBy _ w9 (({ s with pos := p3 } : DS).row 3).ownBlock := (show (({ s with pos := p3 } : DS).row 3) = _ from HTV.out) ▸ hgrow
                have hfo : Fr (fun k => some k = (({ s with pos := p3 } : DS).row 3).ownBlock) w8 w9 := ((Fr.refl _ _).alloc _).trans ⟨hgrow'.os, hgrow'.tape, hgrow'.output, hgrow'.size, fun k hk hs => hgrow'.block k hk hs⟩
                have hr9 : Da w9 rb { s with pos := p3 } := HL8.out.da.fr hfo (fun e => (HRW.out.far 3 rb e.symm).1 rfl)
                have k9 := hr9.c9
                have e9 := hr9.fz 9
                have HR9 := hide hr9
                have HO9 := hide hown
                have HG := hide hgrow'
                have HA := hide hat
                clear hown hgrow hgrow' hat hfo hr9
                go_wp2_with fail
                have hg9 := HL8.out.grown (x' := { x with pos := p3, toks := x.toks ++ [(nf + vv, df + v8)] }) (s' := { s with pos := p3, tv := .slice (some ⟨g, 0, none⟩) (x.toks.length + 1) cap }) 3 g cap (x.toks.length + 1) _ w9 ((Fr.refl _ _).alloc _) HG.out
                  (by rcases HA.out with h | h
                      · exact Or.inl (by rw [show (({ s with pos := p3 } : DS).row 3) = s.tv from rfl, HTV.out]; exact h)
                      · exact Or.inr (by rw [h]; simp)) ks ks HRW.out (HL8.out.keys 3 _ w9 ((Fr.refl _ _).alloc _) HG.out ks HRW.out HKK.out) rfl
                  (by have := HO9.out
                      show w9.ownsRow B 82 2 (.slice (some ⟨g, 0, none⟩) (x.toks.length + 1) cap) (x.toks ++ [(nf + vv, df + v8)]).length ((x.toks ++ [(nf + vv, df + v8)]).flatMap tokv)
                      simpa [tokv] using this)
                  (fun i hi => by match i, hi with | 1, _ => rfl | 2, _ => rfl | 0, _ => rfl | 3, h => exact absurd rfl h)
                  (fun i hi => by match i, hi with | 1, _ => rfl | 2, _ => rfl | 0, _ => rfl | 3, h => exact absurd rfl h)
                  (fun i hi => by match i, hi with | 1, _ => rfl | 2, _ => rfl | 0, _ => rfl | 3, h => exact absurd rfl h)
                  (HR9.out.s9 _) rfl rfl rfl HL8.out.sh HL8.out.er (fun _ => ⟨rfl, hp3, by simp; omega, by show x.kinds.length ≤ p3; omega, by show x.keys.length ≤ p3; omega⟩) HL8.out.len
                have HG9 := hide hg9
                clear hg9 k9 e9
                have hfpos : 1 ≤ df := by rw [← HGR.out]; exact far_pos t (by omega)
                go_loopw [12] (fun i wr => ∃ (k : Nat) (y : Rf.D) (s' : DS), k ≤ nf + vv ∧ i = .int .i64 k ∧ Hid (Rf.copyN lim (df + v8) (nf + vv - k) y = R) ∧ df + v8 ≤ y.out.length ∧ y.st ≠ 2 ∧ RL B rb K d lim y wr s' ∧ Fr (Own B K) w wr) (fun i _ => nf + vv - (intOf i).toNat)
                case atStart => exact ⟨0, _, _, Nat.zero_le _, rfl, HR.out.symm, by show df + v8 ≤ x.out.length; omega, by show x.st ≠ 2; rw [H0.out]; omega, HG9.out.1, (HH.out.one HF8.out).trans HG9.out.2⟩
                case round =>
                  obtain ⟨k, y, s', hk, rfl, hgo, hyo, hnot2, hLr, hfr⟩ := hrel
                  have hyl := hLr.len
                  by_cases hkn : k < nf + vv
                  · by_cases hy0 : y.st = 0
                    · have k3 : wr.cell? ⟨rb, 3, none⟩ = some (.int .i64 0) := by rw [hLr.da.c3, hLr.er0 hy0]; rfl
                      obtain ⟨g2, cap2, hov2, hbyte⟩ := hLr.byte (i := y.out.length - (df + v8)) (by omega)
                      have k6 : wr.cell? ⟨rb, 6, none⟩ = some (.slice (some ⟨g2, 0, none⟩) y.out.length cap2) := by rw [hLr.da.c6, hov2]
                      have hwl : IntKind.i64.wrap ((y.out.length : Int) - ((df : Int) + (v8 : Int))) = ((y.out.length - (df + v8) : Nat) : Int) := by rw [wraps_i64 _ (by omega) (by omega)]; omega
                      obtain ⟨ix, hix⟩ : ∃ ix, ix = y.out.length - (df + v8) := ⟨_, rfl⟩
                      rw [← hix] at hwl hbyte
                      have hixl : (ix : Int) < y.out.length := by omega
                      obtain ⟨m, hm⟩ : ∃ m, nf + vv - k = m + 1 := ⟨nf + vv - k - 1, by omega⟩
                      have HM := hide hm
                      have HST : Hid (R = Rf.copyN lim (df + v8) m (Rf.put lim y (y.out.getD ix 0))) := by
                        unfold Hid; rw [← hgo.out, hm]
                        conv => lhs; unfold Rf.copyN
                        rw [if_pos hy0, hix]
                      clear hix hm
                      go_upto_region 21 with fail
                      refine wp_region_any (by kernel_rfl) ?_
                      change wpAny _ _ _ _ _ _ _ (World.drew _)
                      refine wpAny_take (i := 0) (v := ?_) rfl (by kernel_rfl) (by kernel_rfl) (by kernel_rfl) (fun _ _ _ h => h) (Or.inl ⟨by rfl, by intro w; go_simp; with_reducible rfl⟩) ?_
                      refine wpAny_take (i := 1) (v := ?_) rfl (by kernel_rfl) (by kernel_rfl) (by kernel_rfl) (fun _ _ _ h => h) (Or.inl ⟨by rfl, by intro w; go_simp; with_reducible rfl⟩) ?_
                      refine wpAny_take (i := 2) (v := ?_) rfl (by kernel_rfl) (by kernel_rfl) (by kernel_rfl) (fun _ _ _ h => h) (Or.inl ⟨by rfl, by intro w; go_simp; with_reducible rfl⟩) ?_
                      refine wpAny_take (i := 3) (v := ?_) rfl (by kernel_rfl) (by kernel_rfl) (by kernel_rfl) (fun _ _ _ h => h) (Or.inl ⟨by rfl, by intro w; go_simp; with_reducible rfl⟩) ?_
                      refine wpAny_take (i := 5) (v := ?_) rfl (by kernel_rfl) (by kernel_rfl) (by kernel_rfl) (fun _ _ _ h => h) (Or.inl ⟨by rfl, by intro w; go_simp; with_reducible rfl⟩) ?_
                      refine wpAny_take (i := 6) (v := ?_) rfl (by kernel_rfl) (by kernel_rfl) (by kernel_rfl) (fun _ _ _ h => h) (Or.inl ⟨by rfl, by intro w; go_simp; with_reducible rfl⟩) ?_
                      refine wpAny_take (i := 7) (v := ?_) rfl (by kernel_rfl) (by kernel_rfl) (by kernel_rfl) (fun _ _ _ h => h) (Or.inl ⟨by rfl, by intro w; go_simp; with_reducible rfl⟩) ?_
                      refine wpAny_take (i := 10) (v := ?_) rfl (by kernel_rfl) (by kernel_rfl) (by kernel_rfl) (fun _ _ _ h => h) (Or.inl ⟨by rfl, by intro w; go_simp; with_reducible rfl⟩) ?_
                      refine wpAny_ready (rs := [4, 8]) (by kernel_rfl) (by simp) ?_
                      refine AllReady.cons rfl (fun Kc hK => ?_) ?_
                      · go_simp
                        refine hK _ _ ?_
                        clear hK Kc
                        refine wpAny_ready (rs := [8]) (by kernel_rfl) (by simp) ?_
                        refine AllReady.cons rfl (fun Kc hK => ?_) AllReady.nil
                        go_simp
                        refine hK _ _ ?_
                        clear hK Kc
                        refine wpAny_take (i := 9) (v := ?_) rfl (by kernel_rfl) (by kernel_rfl) (by kernel_rfl) (fun _ _ _ h => h) (Or.inl ⟨by rfl, by intro w; go_simp; with_reducible rfl⟩) ?_
                        refine wpAny_take (i := 11) (v := ?_) rfl (by kernel_rfl) (by kernel_rfl) (by kernel_rfl) (fun _ _ _ h => h) (Or.inl ⟨by rfl, by intro w; go_simp; with_reducible rfl⟩) ?_
                        refine wpAny_take (i := 12) (v := ?_) rfl (by kernel_rfl) (by kernel_rfl) (by kernel_rfl) (fun _ _ _ h => h) (Or.inl ⟨by rfl, by intro w; go_simp; with_reducible rfl⟩) ?_
                        refine wpAny_ready (rs := [13]) (by kernel_rfl) (by simp) ?_
                        refine AllReady.cons rfl (fun Kc hK => ?_) AllReady.nil
                        go_simp
                        refine hK _ _ ?_
                        clear hK Kc
                        refine wpAny_ready (rs := [14]) (by kernel_rfl) (by simp) ?_
                        refine AllReady.cons rfl (fun Kc hK => ?_) AllReady.nil
                        go_simp
                        refine (rput_any B rb K d lim y (World.drew wr) s' (y.out.getD ix 0) (by exact hLr.no ((Fr.refl _ _).drew)) hy0).mono ?_
                        rintro e w2 ⟨rfl, ⟨s2, hL2⟩, hf2⟩
                        refine hK _ _ ?_
                        clear hK Kc
                        refine wpAny_done (by kernel_rfl) ?_ _
                        go_wp2_with fail
                        refine ⟨⟨k + 1, _, s2, by omega, by go_num, ?_, ?_, ?_, hL2, hfr.trans (Fr.trans ((Fr.refl _ _).drew) hf2)⟩, by simp [intOf]; omega⟩
                        · unfold Hid; rw [HST.out, show nf + vv - (k + 1) = m by have := HM.out; omega]
                        · unfold Rf.put; split <;> simp; all_goals omega
                        · unfold Rf.put; split <;> simp; all_goals omega
                      refine AllReady.cons rfl (fun Kc hK => ?_) AllReady.nil
                      go_simp
                      refine hK _ _ ?_
                      clear hK Kc
                      refine wpAny_take (i := 9) (v := ?_) rfl (by kernel_rfl) (by kernel_rfl) (by kernel_rfl) (fun _ _ _ h => h) (Or.inl ⟨by rfl, by intro w; go_simp; with_reducible rfl⟩) ?_
                      refine wpAny_take (i := 11) (v := ?_) rfl (by kernel_rfl) (by kernel_rfl) (by kernel_rfl) (fun _ _ _ h => h) (Or.inl ⟨by rfl, by intro w; go_simp; with_reducible rfl⟩) ?_
                      refine wpAny_ready (rs := [4]) (by kernel_rfl) (by simp) ?_
                      refine AllReady.cons rfl (fun Kc hK => ?_) AllReady.nil
                      go_simp
                      refine hK _ _ ?_
                      clear hK Kc
                      refine wpAny_take (i := 12) (v := ?_) rfl (by kernel_rfl) (by kernel_rfl) (by kernel_rfl) (fun _ _ _ h => h) (Or.inl ⟨by rfl, by intro w; go_simp; with_reducible rfl⟩) ?_
                      refine wpAny_ready (rs := [13]) (by kernel_rfl) (by simp) ?_
                      refine AllReady.cons rfl (fun Kc hK => ?_) AllReady.nil
                      go_simp
                      refine hK _ _ ?_
                      clear hK Kc
                      refine wpAny_ready (rs := [14]) (by kernel_rfl) (by simp) ?_
                      refine AllReady.cons rfl (fun Kc hK => ?_) AllReady.nil
                      go_simp
                      refine (rput_any B rb K d lim y (World.drew wr) s' (y.out.getD ix 0) (by exact hLr.no ((Fr.refl _ _).drew)) hy0).mono ?_
                      rintro e w2 ⟨rfl, ⟨s2, hL2⟩, hf2⟩
                      refine hK _ _ ?_
                      clear hK Kc
                      refine wpAny_done (by kernel_rfl) ?_ _
                      go_wp2_with fail
                      refine ⟨⟨k + 1, _, s2, by omega, by go_num, ?_, ?_, ?_, hL2, hfr.trans (Fr.trans ((Fr.refl _ _).drew) hf2)⟩, by simp [intOf]; omega⟩
                      · unfold Hid; rw [HST.out, show nf + vv - (k + 1) = m by have := HM.out; omega]
                      · unfold Rf.put; split <;> simp; all_goals omega
                      · unfold Rf.put; split <;> simp; all_goals omega
                    · have hk3 : wr.cell? ⟨rb, 3, none⟩ = some (.int .i64 s'.er) := hLr.da.c3
                      have her : ¬ ((s'.er : Int) = 0) := by
                        have := hLr.er
                        intro e
                        have e' : s'.er = 0 := by omega
                        rw [e'] at this
                        split at this
                        · have hst : y.st = 2 := by assumption
                          exact hnot2 hst
                        · exact hy0 this.symm
                      have HRR : Hid (R = y) := by unfold Hid; rw [← hgo.out]; exact copyN_bad _ _ _ _ hy0
                      go_wp2
                      go_end0
                      exact ⟨rfl, ⟨s', HRR.out ▸ hLr⟩, hfr⟩
                  · have HRR : Hid (R = y) := by unfold Hid; rw [← hgo.out, show nf + vv - k = 0 by omega]; rfl
                    go_wp2
                    go_end0
                    exact ⟨rfl, ⟨s', HRR.out ▸ hLr⟩, hfr⟩
end Go.Proofs.YtjjjlilflbddoaaDoor
