import Derived.Test.YtjjjlilflbddoaaDoorGRStor
namespace Go.Proofs.YtjjjlilflbddoaaDoor
open Go.RowKit

theorem told_none (lt : List Nat) (h : lt.length = 0) : lt.getLastD 0 = 0 := by
  have : lt = [] := List.length_eq_zero_iff.1 h
  subst this; rfl
theorem irow_last {w : World} {B : Nat} {v : Value} {l : List Nat} (h : w.ownsRow B 3 1 v l.length (l.map iv)) (hl : 0 < l.length) : ∃ g cap, v = .slice (some ⟨g, 0, none⟩) l.length cap ∧ w.cell? ⟨g, l.length - 1, none⟩ = some (.int .i64 (l.getLastD 0 : Nat)) := by
  rcases h.2 with ⟨_, h0⟩ | ⟨g, cap, cur, hv, _, hh, _, _, _, ht⟩
  · omega
  · refine ⟨g, cap, hv, ?_⟩
    rw [cell_of hh]
    have e1 : (cur.toList.take (l.length * 1))[l.length - 1]? = (l.map iv)[l.length - 1]? := by rw [ht]
    rw [List.getElem?_take_of_lt (by omega)] at e1
    rw [← Array.getElem?_toList, e1, lastD]
    simp [iv, List.getD, show l.length - 1 < l.length by omega]
theorem lens_snoc {l : List Nat} (h : Lens l) (n k : Nat) (hn : n ≤ 15) : Lens (l ++ List.replicate k n) := by
  intro i hi
  by_cases hil : i < l.length
  · rw [List.getD, List.getElem?_append_left hil]; exact h i hil
  · rw [List.getD, List.getElem?_append_right (by omega), List.getElem?_replicate]
    split
    · simpa using hn
    · simp
theorem last_le {l : List Nat} (h : Lens l) : l.getLastD 0 ≤ 15 := by
  rw [lastD]
  by_cases h0 : 0 < l.length
  · exact h _ (by omega)
  · rw [List.getD, List.getElem?_eq_none (by omega)]; simp

/-- How told comes to its end. -/
def RToldP (B rb n : Nat) (K : List Nat) (d : List UInt8) (lim : Nat) (x : Rf.D) (w : World) (s : DS) (r : Gz.Out (List Nat)) (e : Ending) (w' : World) : Prop :=
  Fr (One rb) w w' ∧ match r with
      | .ok (t, q) => ∃ tv, e = .returned tv ∧ w'.ownsRow w.heap.size 3 1 tv t.length (t.map iv) ∧ Lens t ∧ t.length = n ∧ q ≤ 8 * d.length ∧ x.pos ≤ q ∧ RL B rb K d lim { x with pos := q } w' { s with pos := q }
      | .error k => k ≠ 0 ∧ (∃ a m c, e = .returned (.slice a m c)) ∧ ∃ q, RL B rb K d lim { x with st := k } w' (s.bad q k)

set_option maxRecDepth 100000 in
set_option maxHeartbeats 6400000 in
theorem rtold_any (B rb n : Nat) (K : List Nat) (d : List UInt8) (lim : Nat) (x : Rf.D) (w : World) (s : DS) (v : Value) (l : List Nat) (h : RL B rb K d lim x w s) (h0 : x.st = 0) (hc : CodeIn w K v l) (hl19 : l.length ≤ 19) (hn : n ≤ 320) :
    Calls Tryd.prog 96 #[.pointer (some ⟨rb, 0, none⟩), v, .int .i64 n] w (RToldP B rb n K d lim x w s (Gz.told d (Gz.makeCode l) n x.pos)) := by
  have hc' := hc
  obtain ⟨bl1, bc1, a1, b1, rfl, _⟩ := hc
  obtain ⟨i0, hi, hz0, hz1, hz2⟩ := info_parts rinfo3
  have hdl := h.dlen
  have hrbl := h.da.lt
  have hp := h.pos h0
  have hbox := alloc_at w (.cells #[a1, b1] 117)
  have hfa : Fr No w (w.alloc (.cells #[a1, b1] 117)) := (Fr.refl _ _).alloc _
  have HBX0 := hide hbox
  have HFA := hide hfa
  have HH := hide h
  have H0 := hide h0
  have HC := hide hc'
  clear h h0 hc' hbox hfa
  go_enter Tryd.func96, Tryd.ntmps96
  go_wp2_with fail
  go_loopw [7] (fun tv wr => ∃ (lt : List Nat) (p : Nat), lt.length ≤ n ∧ x.pos ≤ p ∧ p ≤ 8 * d.length ∧ Hid (Gz.iter (8 * d.length) (Gz.toldStep d (Gz.makeCode l) n) lt p = Gz.told d (Gz.makeCode l) n x.pos) ∧ Hid (Lens lt) ∧ wr.ownsRow (w.heap.size + 1) 3 1 tv lt.length (lt.map iv) ∧ Da wr rb { s with pos := p } ∧ Hid (wr.heap[w.heap.size]? = some (.cells #[a1, b1] 117 (0, 0))) ∧ Fr (One rb) w wr) (fun tv _ => n - lenOf tv)
  case atStart => exact ⟨[], x.pos, Nat.zero_le _, Nat.le_refl _, hp.2.1, rfl, (fun i hi => by simp at hi), irow_nil _ _, by rw [← hp.1]; exact (HH.out.no HFA.out).da, HBX0.out, HFA.out.of_no⟩
  case round =>
    obtain ⟨lt, p, hlc, hxp, hp8, HGO, HL15, hrow, hda, HBOX, hfr⟩ := hrel
    obtain ⟨ao, cp, rfl⟩ := irow_form hrow
    have hLr := HH.out.step H0.out hfr p hda hxp hp8
    have HROW := hide hrow
    have HOK := hide (rok_good hLr H0.out)
    have hsz := hfr.size
    have hbl := lt_of HBOX.out
    clear hrow
    by_cases hlt : lt.length < n
    · have HSY := hide (rsym_any B rb K d lim { x with pos := p } wr _ _ l hLr H0.out (HC.out.fr (HH.out.one hfr)))
      have z0 := cell_of HBOX.out 0
      have z1 := cell_of HBOX.out 1
      have HLR := hide hLr
      clear hLr
      go_wp2_with (first | (go_at_call 42; refine HOK.out.mono ?_; rintro e w' ⟨rfl, hw⟩; obtain rfl := hw.symm) | fail)
      refine HSY.out.mono ?_
      rintro e w2 ⟨hf2, hres⟩
      have hbx2 : Hid (w2.heap[w.heap.size]? = some (.cells #[a1, b1] 117 (0, 0))) := hf2.at HBOX.out (one_ne (by omega))
      have hrow2 := ownsRow_fr HROW.out hf2 (fun g hg => one_ne (fun e => by have := ownsRow_lt HROW.out hg; omega))
      have hfr2 := hfr.trans hf2
      have hsz2 := hf2.size
      clear HSY z0 z1 HOK
      cases hs : Gz.sym d (Gz.makeCode l) p with
      | error k =>
        simp only [hs] at hres
        obtain ⟨hk0, rfl, q, hL2⟩ := hres
        have HD : Hid (Gz.told d (Gz.makeCode l) n x.pos = .error k) := by
          unfold Hid; rw [← HGO.out]; exact iter_bad (by unfold Gz.toldStep; rw [if_pos hlt, hs]; rfl)
        have HOKB := hide (rok_bad hL2 hk0)
        have HDA := hide hL2.da
        clear hL2 hs
        go_wp2_with (go_at_call 42; refine HOKB.out.mono ?_; rintro e w' ⟨rfl, hw⟩; obtain rfl := hw.symm)
        go_ret
        refine ⟨hfr2, ?_⟩
        rw [HD.out]
        exact ⟨hk0, ⟨_, _, _, rfl⟩, q, HH.out.bad' hfr2 q k hk0 HDA.out⟩
      | ok okk =>
        obtain ⟨sy, q⟩ := okk
        simp only [hs] at hres
        obtain ⟨rfl, hsl, hq8, hpq, hL2⟩ := hres
        have hsy19 : sy < 19 := by omega
        have HS := hide hs
        have HOKG := hide (rok_good hL2 H0.out)
        have hda2 : Da w2 rb { s with pos := q } := hL2.da
        have HL2 := hide hL2
        clear hL2 hs HROW hfr
        have HROW := hide hrow2
        clear hrow2
        by_cases h16 : sy < 16
        · have HST : Hid (Gz.iter (8 * d.length) (Gz.toldStep d (Gz.makeCode l) n) (lt ++ [sy]) q = Gz.told d (Gz.makeCode l) n x.pos) := by
            unfold Hid; rw [← HGO.out]
            refine (iter_more ?_ (by omega) hq8).symm
            unfold Gz.toldStep
            rw [if_pos hlt, HS.out]
            simp only [Gz.Out.bind]
            have hr : Gz.run d sy q = .ok ((sy, 1), q) := by unfold Gz.run; rw [if_neg (by omega), if_neg (by omega), if_neg (by omega)]
            rw [hr]
            simp only [if_neg (show ¬ (sy = 16 ∧ lt.length = 0) by omega), if_neg (show ¬ n < lt.length + 1 by omega), if_neg (show ¬ sy = 16 by omega)]
            rfl
          go_wp2_with (first | (go_at_call 42; refine HOKG.out.mono ?_; rintro e w' ⟨rfl, hw⟩; obtain rfl := hw.symm) | (at_builtin; refine wpList_append_lies _ rfl (.tmp 29) (.tmp 31) 30 rfl (w.heap.size + 1) 3 i0 (.int .i64 0) 1 8 Tryd.underlying30 hi hz0 hz1 hz2 rfl (by decide) (.slice ao lt.length cp) lt.length (lt.map iv) rfl ?hown ⟨w2.heap.size, 0, none⟩ 1 1 [iv sy] rfl rfl ?hnews ?h1 (by decide) ?h63 ?hb ?hbase _ rfl ?hK))
          case hown => exact ownsRow_fr (S := No) HROW.out ((Fr.refl _ _).alloc _) (fun _ _ => no_no _)
          case hnews => first | exact (fun j u h => h) | intro j u hj; match j, hj with | 0, hj => simp at hj; subst hj; exact cell_of (alloc_at w2 _) 0
          case h1 => first | rfl | (intro u hu; simp at hu; subst hu; rfl)
          case h63 => unfold maxLen; omega
          case hb => omega
          case hbase => first | omega | (simp; omega)
          case hK =>
            intro g cap5 w5 hown5 hgrow5 hat5 hlt5
            have hf5 : Fr (One rb) w w5 := (hfr2.alloc _).grown hgrow5 (fun k hk2 hk3 => by have := ownsRow_lt HROW.out hk2; omega)
            have hfo : Fr (fun k => (Value.slice ao lt.length cp).ownBlock = some k) w2 w5 := ((Fr.refl _ _).alloc _).grown hgrow5 (fun k hk _ => hk)
            have hda5 : Da w5 rb { s with pos := q } := hda2.fr hfo (fun e => by have := ownsRow_lt HROW.out e; omega)
            have hbx5 : Hid (w5.heap[w.heap.size]? = some (.cells #[a1, b1] 117 (0, 0))) := hfo.at hbx2.out (fun e => by have := ownsRow_lt HROW.out e; omega)
            have HO5 := hide hown5
            clear hown5 hgrow5 hat5 hfo
            go_wp2_with fail
            refine ⟨⟨lt ++ [sy], q, by simp; omega, by omega, hq8, HST.out, lens_snoc HL15.out sy 1 (by omega), ?_, hda5, hbx5, hf5⟩, ?_⟩
            · have := HO5.out; simpa using this
            · simp [lenOf]; omega
        · have hq3 : sy = 16 ∨ sy = 17 ∨ sy = 18 := by omega
          rcases hq3 with rfl | rfl | rfl
          · have HNU := hide (rnum_any B rb 2 K d lim _ w2 _ HL2.out H0.out (by omega))
            go_wp2_with (first | (go_at_call 42; refine HOKG.out.mono ?_; rintro e w' ⟨rfl, hw⟩; obtain rfl := hw.symm) | fail)
            refine HNU.out.mono ?_
            rintro e w3 ⟨hf3, hres⟩
            have hbx3 : Hid (w3.heap[w.heap.size]? = some (.cells #[a1, b1] 117 (0, 0))) := hf3.at hbx2.out (one_ne (by omega))
            have hrow3 := ownsRow_fr HROW.out hf3 (fun g hg => one_ne (fun e => by have := ownsRow_lt HROW.out hg; omega))
            have hfr3 := hfr2.trans hf3
            have hsz3 := hf3.size
            clear HNU
            cases hnm : Gz.num d 2 q with
            | error k =>
              simp only [hnm] at hres
              obtain ⟨rfl, ⟨v2, hv2, rfl⟩, q2, hL3⟩ := hres
              have HD : Hid (Gz.told d (Gz.makeCode l) n x.pos = .error 2) := by
                unfold Hid; rw [← HGO.out]
                refine iter_bad ?_
                unfold Gz.toldStep
                rw [if_pos hlt, HS.out]
                simp only [Gz.Out.bind]
                rw [show Gz.run d 16 q = .error 2 by unfold Gz.run; rw [hnm]; rfl]
              have k2 : w3.cell? ⟨rb, 2, none⟩ = some (.bool true) := hL3.da.c2
              have HDA := hide hL3.da
              clear hL3 hnm
              go_wp2_with fail
              go_ret
              refine ⟨hfr3, ?_⟩
              rw [HD.out]
              exact ⟨by omega, ⟨_, _, _, rfl⟩, q2, HH.out.bad' hfr3 q2 2 (by omega) HDA.out⟩
            | ok okk =>
              obtain ⟨vv, q2⟩ := okk
              have hvb : vv < 4 := by
                unfold Gz.num at hnm
                split at hnm
                · injection hnm with e; injection e with e1 e2; rw [← e1]; exact val_lt d q 2
                · cases hnm
              simp only [hnm] at hres
              obtain ⟨rfl, hv2, hq28, hqq2, hL3⟩ := hres
              have HST : Hid (Gz.toldStep d (Gz.makeCode l) n lt p = if 16 = 16 ∧ lt.length = 0 then .error 5 else if n < lt.length + (vv + 3) then .error 5 else .ok (.inl (lt ++ List.replicate (vv + 3) (lt.getLastD 0)), q2)) := by
                unfold Hid Gz.toldStep
                rw [if_pos hlt, HS.out]
                simp only [Gz.Out.bind]
                rw [show Gz.run d 16 q = .ok ((0, vv + 3), q2) by unfold Gz.run; rw [hnm]; rfl]
                rfl
              have k2 : w3.cell? ⟨rb, 2, none⟩ = some (.bool false) := by rw [hL3.da.c2]; exact congrArg (fun b => some (Value.bool b)) (HH.out.sh0 H0.out)
              have k3 := hL3.da.c3
              have e3 := hL3.da.fz 3
              have hda3 : Da w3 rb { s with pos := q2 } := hL3.da
              clear hL3 hnm HROW hfr2
              have HROW := hide hrow3
              clear hrow3
              by_cases hmany : n < lt.length + (vv + 3) ∨ lt.length = 0
              · have HD : Hid (Gz.told d (Gz.makeCode l) n x.pos = .error 5) := by
                  unfold Hid; rw [← HGO.out]
                  exact iter_bad (by rw [HST.out]; by_cases e : (16 = 16 ∧ lt.length = 0); (rw [if_pos e]); (rw [if_neg e, if_pos (by omega)]))
                by_cases hm1 : n < lt.length + (vv + 3)
                · have hi1 : (n : Int) < (lt.length : Int) + (3 + (vv : Int)) := by omega
                  go_wp2_with fail
                  go_ret
                  have hf9 := one_set rb 3 w3 (.int .i64 5)
                  refine ⟨hfr3.trans hf9, ?_⟩
                  rw [HD.out]
                  refine ⟨by omega, ⟨_, _, _, rfl⟩, q2, HH.out.bad' (hfr3.trans hf9) q2 5 (by omega) ?_⟩
                  rw [show s.bad q2 5 = { s with pos := q2, er := 5 } by unfold DS.bad; rw [show (5 == 2) = false from rfl, ← HH.out.sh0 H0.out]; rfl]
                  exact hda3.s3 5 5 rfl
                · have hm2 : lt.length = 0 := by omega
                  have hi1 : ¬ (n : Int) < (lt.length : Int) + (3 + (vv : Int)) := by omega
                  have hi2 : ((lt.length : Int) == 0) = true := by rw [beq_iff_eq]; omega
                  go_wp2_with fail
                  go_ret
                  have hf9 := one_set rb 3 w3 (.int .i64 5)
                  refine ⟨hfr3.trans hf9, ?_⟩
                  rw [HD.out]
                  refine ⟨by omega, ⟨_, _, _, rfl⟩, q2, HH.out.bad' (hfr3.trans hf9) q2 5 (by omega) ?_⟩
                  rw [show s.bad q2 5 = { s with pos := q2, er := 5 } by unfold DS.bad; rw [show (5 == 2) = false from rfl, ← HH.out.sh0 H0.out]; rfl]
                  exact hda3.s3 5 5 rfl
              · have hi1 : ¬ (n : Int) < (lt.length : Int) + (3 + (vv : Int)) := by omega
                have hi2 : ((lt.length : Int) == 0) = false := by rw [beq_eq_false_iff_ne]; omega
                obtain ⟨gg, cq, hgq, hlast⟩ := irow_last HROW.out (by omega)
                injection hgq with hg1 hg2 hg3
                subst hg1
                subst hg3
                have hl15' := last_le HL15.out
                have hi3 : 0 < lt.length := by omega
                have hi4 : ((lt.length - 1 : Nat) : Int) = (lt.length : Int) - 1 := by omega
                have HM : Hid (Gz.iter (8 * d.length) (Gz.toldStep d (Gz.makeCode l) n) (lt ++ List.replicate (vv + 3) (lt.getLastD 0)) q2 = Gz.told d (Gz.makeCode l) n x.pos) := by
                  unfold Hid; rw [← HGO.out]; exact (iter_more (by rw [HST.out, if_neg (by omega), if_neg (by omega)]) (by omega) hq28).symm
                clear k3 e3 HST
                obtain ⟨X, hX⟩ : ∃ X, X = lt.getLastD 0 := ⟨_, rfl⟩
                rw [← hX] at HM
                have hX15 : X ≤ 15 := by rw [hX]; exact hl15'
                rw [← hX] at hlast; clear hX hl15'
                go_wp2_with fail
                go_loopw [7, 11] (fun tv i w4 => ∃ (k : Nat) (l4 : List Nat), k ≤ vv + 3 ∧ i = .int .i64 k ∧ Hid (l4 = lt ++ List.replicate k X) ∧ w4.ownsRow (w.heap.size + 1) 3 1 tv l4.length (l4.map iv) ∧ Da w4 rb { s with pos := q2 } ∧ Hid (w4.heap[w.heap.size]? = some (.cells #[a1, b1] 117 (0, 0))) ∧ Fr (One rb) w w4) (fun _ i _ => vv + 3 - (intOf i).toNat)
                case atStart => exact ⟨0, lt, Nat.zero_le _, rfl, by unfold Hid; simp, HROW.out, hda3, hbx3, hfr3⟩
                case round =>
                  obtain ⟨k, l4, hk, rfl, HL4, hrow4, hda4, HBOX4, hfr4⟩ := hrel
                  obtain ⟨ao4, cp4, rfl⟩ := irow_form hrow4
                  have HROW4 := hide hrow4
                  have hlen4 : l4.length ≤ lt.length + k := by rw [HL4.out]; simp
                  have hsz4 := hfr4.size
                  have hbl4 := lt_of HBOX4.out
                  clear hrow4
                  by_cases hkt : k < vv + 3
                  · go_wp2_with (at_builtin; refine wpList_append_lies _ rfl (.tmp 83) (.tmp 85) 30 rfl (w.heap.size + 1) 3 i0 (.int .i64 0) 1 8 Tryd.underlying30 hi hz0 hz1 hz2 rfl (by decide) (.slice ao4 l4.length cp4) l4.length (l4.map iv) rfl ?hown ⟨wr.heap.size, 0, none⟩ 1 1 [iv X] rfl rfl ?hnews ?h1 (by decide) ?h63 ?hb ?hbase _ rfl ?hK)
                    case hown => exact ownsRow_fr (S := No) HROW4.out ((Fr.refl _ _).alloc _) (fun _ _ => no_no _)
                    case hnews => first | exact (fun j u h => h) | intro j u hj; match j, hj with | 0, hj => simp at hj; subst hj; exact cell_of (alloc_at wr _) 0
                    case h1 => first | rfl | (intro u hu; simp at hu; subst hu; rfl)
                    case h63 => unfold maxLen; omega
                    case hb => omega
                    case hbase => first | omega | (simp; omega)
                    case hK =>
                      intro g cap5 w5 hown5 hgrow5 hat5 hlt5
                      have hf5 : Fr (One rb) w w5 := (hfr4.alloc _).grown hgrow5 (fun k hk2 hk3 => by have := ownsRow_lt HROW4.out hk2; omega)
                      have hfo : Fr (fun k => (Value.slice ao4 l4.length cp4).ownBlock = some k) wr w5 := ((Fr.refl _ _).alloc _).grown hgrow5 (fun k hk _ => hk)
                      have hda5 : Da w5 rb { s with pos := q2 } := hda4.fr hfo (fun e => by have := ownsRow_lt HROW4.out e; omega)
                      have hbx5 : Hid (w5.heap[w.heap.size]? = some (.cells #[a1, b1] 117 (0, 0))) := hfo.at HBOX4.out (fun e => by have := ownsRow_lt HROW4.out e; omega)
                      have HO5 := hide hown5
                      clear hown5 hgrow5 hat5 hfo
                      go_wp2_with fail
                      refine ⟨⟨k + 1, l4 ++ [X], by omega, by go_num, ?_, ?_, hda5, hbx5, hf5⟩, by simp [intOf]; omega⟩
                      · unfold Hid; rw [HL4.out, List.append_assoc, List.replicate_succ']
                      · have := HO5.out; simpa using this
                  · go_wp2_with fail
                    have hke : k = vv + 3 := by omega
                    have hll : l4.length = lt.length + (vv + 3) := by rw [HL4.out, hke]; simp
                    refine ⟨⟨l4, q2, by omega, by omega, hq28, ?_, ?_, HROW4.out, hda4, HBOX4.out, hfr4⟩, by simp [lenOf]; omega⟩
                    · unfold Hid; rw [HL4.out, hke]; exact HM.out
                    · unfold Hid; rw [HL4.out]; exact lens_snoc HL15.out _ _ (by omega)
          · have HNU := hide (rnum_any B rb 3 K d lim _ w2 _ HL2.out H0.out (by omega))
            go_wp2_with (first | (go_at_call 42; refine HOKG.out.mono ?_; rintro e w' ⟨rfl, hw⟩; obtain rfl := hw.symm) | fail)
            refine HNU.out.mono ?_
            rintro e w3 ⟨hf3, hres⟩
            have hbx3 : Hid (w3.heap[w.heap.size]? = some (.cells #[a1, b1] 117 (0, 0))) := hf3.at hbx2.out (one_ne (by omega))
            have hrow3 := ownsRow_fr HROW.out hf3 (fun g hg => one_ne (fun e => by have := ownsRow_lt HROW.out hg; omega))
            have hfr3 := hfr2.trans hf3
            have hsz3 := hf3.size
            clear HNU
            cases hnm : Gz.num d 3 q with
            | error k =>
              simp only [hnm] at hres
              obtain ⟨rfl, ⟨v2, hv2, rfl⟩, q2, hL3⟩ := hres
              have HD : Hid (Gz.told d (Gz.makeCode l) n x.pos = .error 2) := by
                unfold Hid; rw [← HGO.out]
                refine iter_bad ?_
                unfold Gz.toldStep
                rw [if_pos hlt, HS.out]
                simp only [Gz.Out.bind]
                rw [show Gz.run d 17 q = .error 2 by unfold Gz.run; rw [hnm]; rfl]
              have k2 : w3.cell? ⟨rb, 2, none⟩ = some (.bool true) := hL3.da.c2
              have HDA := hide hL3.da
              clear hL3 hnm
              go_wp2_with fail
              go_ret
              refine ⟨hfr3, ?_⟩
              rw [HD.out]
              exact ⟨by omega, ⟨_, _, _, rfl⟩, q2, HH.out.bad' hfr3 q2 2 (by omega) HDA.out⟩
            | ok okk =>
              obtain ⟨vv, q2⟩ := okk
              have hvb : vv < 8 := by
                unfold Gz.num at hnm
                split at hnm
                · injection hnm with e; injection e with e1 e2; rw [← e1]; exact val_lt d q 3
                · cases hnm
              simp only [hnm] at hres
              obtain ⟨rfl, hv2, hq28, hqq2, hL3⟩ := hres
              have HST : Hid (Gz.toldStep d (Gz.makeCode l) n lt p = if 17 = 16 ∧ lt.length = 0 then .error 5 else if n < lt.length + (vv + 3) then .error 5 else .ok (.inl (lt ++ List.replicate (vv + 3) (0)), q2)) := by
                unfold Hid Gz.toldStep
                rw [if_pos hlt, HS.out]
                simp only [Gz.Out.bind]
                rw [show Gz.run d 17 q = .ok ((0, vv + 3), q2) by unfold Gz.run; rw [hnm]; rfl]
                rfl
              have k2 : w3.cell? ⟨rb, 2, none⟩ = some (.bool false) := by rw [hL3.da.c2]; exact congrArg (fun b => some (Value.bool b)) (HH.out.sh0 H0.out)
              have k3 := hL3.da.c3
              have e3 := hL3.da.fz 3
              have hda3 : Da w3 rb { s with pos := q2 } := hL3.da
              clear hL3 hnm HROW hfr2
              have HROW := hide hrow3
              clear hrow3
              by_cases hmany : n < lt.length + (vv + 3)
              · have HD : Hid (Gz.told d (Gz.makeCode l) n x.pos = .error 5) := by
                  unfold Hid; rw [← HGO.out]
                  exact iter_bad (by rw [HST.out]; rw [if_neg (by omega), if_pos hmany])
                have hi1 : (n : Int) < (lt.length : Int) + (3 + (vv : Int)) := by omega
                go_wp2_with fail
                go_ret
                have hf9 := one_set rb 3 w3 (.int .i64 5)
                refine ⟨hfr3.trans hf9, ?_⟩
                rw [HD.out]
                refine ⟨by omega, ⟨_, _, _, rfl⟩, q2, HH.out.bad' (hfr3.trans hf9) q2 5 (by omega) ?_⟩
                rw [show s.bad q2 5 = { s with pos := q2, er := 5 } by unfold DS.bad; rw [show (5 == 2) = false from rfl, ← HH.out.sh0 H0.out]; rfl]
                exact hda3.s3 5 5 rfl
              · have hi1 : ¬ (n : Int) < (lt.length : Int) + (3 + (vv : Int)) := by omega
                have HM : Hid (Gz.iter (8 * d.length) (Gz.toldStep d (Gz.makeCode l) n) (lt ++ List.replicate (vv + 3) (0)) q2 = Gz.told d (Gz.makeCode l) n x.pos) := by
                  unfold Hid; rw [← HGO.out]; exact (iter_more (by rw [HST.out, if_neg (by omega), if_neg (by omega)]) (by omega) hq28).symm
                clear k3 e3 HST
                obtain ⟨X, hX⟩ : ∃ X, X = 0 := ⟨_, rfl⟩
                rw [← hX] at HM
                have hX15 : X ≤ 15 := by rw [hX]; omega
                subst hX
                go_wp2_with fail
                go_loopw [7, 11] (fun tv i w4 => ∃ (k : Nat) (l4 : List Nat), k ≤ vv + 3 ∧ i = .int .i64 k ∧ Hid (l4 = lt ++ List.replicate k 0) ∧ w4.ownsRow (w.heap.size + 1) 3 1 tv l4.length (l4.map iv) ∧ Da w4 rb { s with pos := q2 } ∧ Hid (w4.heap[w.heap.size]? = some (.cells #[a1, b1] 117 (0, 0))) ∧ Fr (One rb) w w4) (fun _ i _ => vv + 3 - (intOf i).toNat)
                case atStart => exact ⟨0, lt, Nat.zero_le _, rfl, by unfold Hid; simp, HROW.out, hda3, hbx3, hfr3⟩
                case round =>
                  obtain ⟨k, l4, hk, rfl, HL4, hrow4, hda4, HBOX4, hfr4⟩ := hrel
                  obtain ⟨ao4, cp4, rfl⟩ := irow_form hrow4
                  have HROW4 := hide hrow4
                  have hlen4 : l4.length ≤ lt.length + k := by rw [HL4.out]; simp
                  have hsz4 := hfr4.size
                  have hbl4 := lt_of HBOX4.out
                  clear hrow4
                  by_cases hkt : k < vv + 3
                  · go_wp2_with (at_builtin; refine wpList_append_lies _ rfl (.tmp 83) (.tmp 85) 30 rfl (w.heap.size + 1) 3 i0 (.int .i64 0) 1 8 Tryd.underlying30 hi hz0 hz1 hz2 rfl (by decide) (.slice ao4 l4.length cp4) l4.length (l4.map iv) rfl ?hown ⟨wr.heap.size, 0, none⟩ 1 1 [iv 0] rfl rfl ?hnews ?h1 (by decide) ?h63 ?hb ?hbase _ rfl ?hK)
                    case hown => exact ownsRow_fr (S := No) HROW4.out ((Fr.refl _ _).alloc _) (fun _ _ => no_no _)
                    case hnews => first | exact (fun j u h => h) | intro j u hj; match j, hj with | 0, hj => simp at hj; subst hj; exact cell_of (alloc_at wr _) 0
                    case h1 => first | rfl | (intro u hu; simp at hu; subst hu; rfl)
                    case h63 => unfold maxLen; omega
                    case hb => omega
                    case hbase => first | omega | (simp; omega)
                    case hK =>
                      intro g cap5 w5 hown5 hgrow5 hat5 hlt5
                      have hf5 : Fr (One rb) w w5 := (hfr4.alloc _).grown hgrow5 (fun k hk2 hk3 => by have := ownsRow_lt HROW4.out hk2; omega)
                      have hfo : Fr (fun k => (Value.slice ao4 l4.length cp4).ownBlock = some k) wr w5 := ((Fr.refl _ _).alloc _).grown hgrow5 (fun k hk _ => hk)
                      have hda5 : Da w5 rb { s with pos := q2 } := hda4.fr hfo (fun e => by have := ownsRow_lt HROW4.out e; omega)
                      have hbx5 : Hid (w5.heap[w.heap.size]? = some (.cells #[a1, b1] 117 (0, 0))) := hfo.at HBOX4.out (fun e => by have := ownsRow_lt HROW4.out e; omega)
                      have HO5 := hide hown5
                      clear hown5 hgrow5 hat5 hfo
                      go_wp2_with fail
                      refine ⟨⟨k + 1, l4 ++ [0], by omega, by go_num, ?_, ?_, hda5, hbx5, hf5⟩, by simp [intOf]; omega⟩
                      · unfold Hid; rw [HL4.out, List.append_assoc, List.replicate_succ']
                      · have := HO5.out; simpa using this
                  · go_wp2_with fail
                    have hke : k = vv + 3 := by omega
                    have hll : l4.length = lt.length + (vv + 3) := by rw [HL4.out, hke]; simp
                    refine ⟨⟨l4, q2, by omega, by omega, hq28, ?_, ?_, HROW4.out, hda4, HBOX4.out, hfr4⟩, by simp [lenOf]; omega⟩
                    · unfold Hid; rw [HL4.out, hke]; exact HM.out
                    · unfold Hid; rw [HL4.out]; exact lens_snoc HL15.out _ _ (by omega)
          · have HNU := hide (rnum_any B rb 7 K d lim _ w2 _ HL2.out H0.out (by omega))
            go_wp2_with (first | (go_at_call 42; refine HOKG.out.mono ?_; rintro e w' ⟨rfl, hw⟩; obtain rfl := hw.symm) | fail)
            refine HNU.out.mono ?_
            rintro e w3 ⟨hf3, hres⟩
            have hbx3 : Hid (w3.heap[w.heap.size]? = some (.cells #[a1, b1] 117 (0, 0))) := hf3.at hbx2.out (one_ne (by omega))
            have hrow3 := ownsRow_fr HROW.out hf3 (fun g hg => one_ne (fun e => by have := ownsRow_lt HROW.out hg; omega))
            have hfr3 := hfr2.trans hf3
            have hsz3 := hf3.size
            clear HNU
            cases hnm : Gz.num d 7 q with
            | error k =>
              simp only [hnm] at hres
              obtain ⟨rfl, ⟨v2, hv2, rfl⟩, q2, hL3⟩ := hres
              have HD : Hid (Gz.told d (Gz.makeCode l) n x.pos = .error 2) := by
                unfold Hid; rw [← HGO.out]
                refine iter_bad ?_
                unfold Gz.toldStep
                rw [if_pos hlt, HS.out]
                simp only [Gz.Out.bind]
                rw [show Gz.run d 18 q = .error 2 by unfold Gz.run; rw [hnm]; rfl]
              have k2 : w3.cell? ⟨rb, 2, none⟩ = some (.bool true) := hL3.da.c2
              have HDA := hide hL3.da
              clear hL3 hnm
              go_wp2_with fail
              go_ret
              refine ⟨hfr3, ?_⟩
              rw [HD.out]
              exact ⟨by omega, ⟨_, _, _, rfl⟩, q2, HH.out.bad' hfr3 q2 2 (by omega) HDA.out⟩
            | ok okk =>
              obtain ⟨vv, q2⟩ := okk
              have hvb : vv < 128 := by
                unfold Gz.num at hnm
                split at hnm
                · injection hnm with e; injection e with e1 e2; rw [← e1]; exact val_lt d q 7
                · cases hnm
              simp only [hnm] at hres
              obtain ⟨rfl, hv2, hq28, hqq2, hL3⟩ := hres
              have HST : Hid (Gz.toldStep d (Gz.makeCode l) n lt p = if 18 = 16 ∧ lt.length = 0 then .error 5 else if n < lt.length + (vv + 11) then .error 5 else .ok (.inl (lt ++ List.replicate (vv + 11) (0)), q2)) := by
                unfold Hid Gz.toldStep
                rw [if_pos hlt, HS.out]
                simp only [Gz.Out.bind]
                rw [show Gz.run d 18 q = .ok ((0, vv + 11), q2) by unfold Gz.run; rw [hnm]; rfl]
                rfl
              have k2 : w3.cell? ⟨rb, 2, none⟩ = some (.bool false) := by rw [hL3.da.c2]; exact congrArg (fun b => some (Value.bool b)) (HH.out.sh0 H0.out)
              have k3 := hL3.da.c3
              have e3 := hL3.da.fz 3
              have hda3 : Da w3 rb { s with pos := q2 } := hL3.da
              clear hL3 hnm HROW hfr2
              have HROW := hide hrow3
              clear hrow3
              by_cases hmany : n < lt.length + (vv + 11)
              · have HD : Hid (Gz.told d (Gz.makeCode l) n x.pos = .error 5) := by
                  unfold Hid; rw [← HGO.out]
                  exact iter_bad (by rw [HST.out]; rw [if_neg (by omega), if_pos hmany])
                have hi1 : (n : Int) < (lt.length : Int) + (11 + (vv : Int)) := by omega
                go_wp2_with fail
                go_ret
                have hf9 := one_set rb 3 w3 (.int .i64 5)
                refine ⟨hfr3.trans hf9, ?_⟩
                rw [HD.out]
                refine ⟨by omega, ⟨_, _, _, rfl⟩, q2, HH.out.bad' (hfr3.trans hf9) q2 5 (by omega) ?_⟩
                rw [show s.bad q2 5 = { s with pos := q2, er := 5 } by unfold DS.bad; rw [show (5 == 2) = false from rfl, ← HH.out.sh0 H0.out]; rfl]
                exact hda3.s3 5 5 rfl
              · have hi1 : ¬ (n : Int) < (lt.length : Int) + (11 + (vv : Int)) := by omega
                have HM : Hid (Gz.iter (8 * d.length) (Gz.toldStep d (Gz.makeCode l) n) (lt ++ List.replicate (vv + 11) (0)) q2 = Gz.told d (Gz.makeCode l) n x.pos) := by
                  unfold Hid; rw [← HGO.out]; exact (iter_more (by rw [HST.out, if_neg (by omega), if_neg (by omega)]) (by omega) hq28).symm
                clear k3 e3 HST
                obtain ⟨X, hX⟩ : ∃ X, X = 0 := ⟨_, rfl⟩
                rw [← hX] at HM
                have hX15 : X ≤ 15 := by rw [hX]; omega
                subst hX
                go_wp2_with fail
                go_loopw [7, 11] (fun tv i w4 => ∃ (k : Nat) (l4 : List Nat), k ≤ vv + 11 ∧ i = .int .i64 k ∧ Hid (l4 = lt ++ List.replicate k 0) ∧ w4.ownsRow (w.heap.size + 1) 3 1 tv l4.length (l4.map iv) ∧ Da w4 rb { s with pos := q2 } ∧ Hid (w4.heap[w.heap.size]? = some (.cells #[a1, b1] 117 (0, 0))) ∧ Fr (One rb) w w4) (fun _ i _ => vv + 11 - (intOf i).toNat)
                case atStart => exact ⟨0, lt, Nat.zero_le _, rfl, by unfold Hid; simp, HROW.out, hda3, hbx3, hfr3⟩
                case round =>
                  obtain ⟨k, l4, hk, rfl, HL4, hrow4, hda4, HBOX4, hfr4⟩ := hrel
                  obtain ⟨ao4, cp4, rfl⟩ := irow_form hrow4
                  have HROW4 := hide hrow4
                  have hlen4 : l4.length ≤ lt.length + k := by rw [HL4.out]; simp
                  have hsz4 := hfr4.size
                  have hbl4 := lt_of HBOX4.out
                  clear hrow4
                  by_cases hkt : k < vv + 11
                  · go_wp2_with (at_builtin; refine wpList_append_lies _ rfl (.tmp 83) (.tmp 85) 30 rfl (w.heap.size + 1) 3 i0 (.int .i64 0) 1 8 Tryd.underlying30 hi hz0 hz1 hz2 rfl (by decide) (.slice ao4 l4.length cp4) l4.length (l4.map iv) rfl ?hown ⟨wr.heap.size, 0, none⟩ 1 1 [iv 0] rfl rfl ?hnews ?h1 (by decide) ?h63 ?hb ?hbase _ rfl ?hK)
                    case hown => exact ownsRow_fr (S := No) HROW4.out ((Fr.refl _ _).alloc _) (fun _ _ => no_no _)
                    case hnews => first | exact (fun j u h => h) | intro j u hj; match j, hj with | 0, hj => simp at hj; subst hj; exact cell_of (alloc_at wr _) 0
                    case h1 => first | rfl | (intro u hu; simp at hu; subst hu; rfl)
                    case h63 => unfold maxLen; omega
                    case hb => omega
                    case hbase => first | omega | (simp; omega)
                    case hK =>
                      intro g cap5 w5 hown5 hgrow5 hat5 hlt5
                      have hf5 : Fr (One rb) w w5 := (hfr4.alloc _).grown hgrow5 (fun k hk2 hk3 => by have := ownsRow_lt HROW4.out hk2; omega)
                      have hfo : Fr (fun k => (Value.slice ao4 l4.length cp4).ownBlock = some k) wr w5 := ((Fr.refl _ _).alloc _).grown hgrow5 (fun k hk _ => hk)
                      have hda5 : Da w5 rb { s with pos := q2 } := hda4.fr hfo (fun e => by have := ownsRow_lt HROW4.out e; omega)
                      have hbx5 : Hid (w5.heap[w.heap.size]? = some (.cells #[a1, b1] 117 (0, 0))) := hfo.at HBOX4.out (fun e => by have := ownsRow_lt HROW4.out e; omega)
                      have HO5 := hide hown5
                      clear hown5 hgrow5 hat5 hfo
                      go_wp2_with fail
                      refine ⟨⟨k + 1, l4 ++ [0], by omega, by go_num, ?_, ?_, hda5, hbx5, hf5⟩, by simp [intOf]; omega⟩
                      · unfold Hid; rw [HL4.out, List.append_assoc, List.replicate_succ']
                      · have := HO5.out; simpa using this
                  · go_wp2_with fail
                    have hke : k = vv + 11 := by omega
                    have hll : l4.length = lt.length + (vv + 11) := by rw [HL4.out, hke]; simp
                    refine ⟨⟨l4, q2, by omega, by omega, hq28, ?_, ?_, HROW4.out, hda4, HBOX4.out, hfr4⟩, by simp [lenOf]; omega⟩
                    · unfold Hid; rw [HL4.out, hke]; exact HM.out
                    · unfold Hid; rw [HL4.out]; exact lens_snoc HL15.out _ _ (by omega)
    · have HD : Hid (Gz.told d (Gz.makeCode l) n x.pos = .ok (lt, p)) := by
        unfold Hid; rw [← HGO.out]; exact iter_end (by unfold Gz.toldStep; rw [if_neg hlt])
      go_wp2_with (go_at_call 42; refine HOK.out.mono ?_; rintro e w' ⟨rfl, hw⟩; obtain rfl := hw.symm)
      go_ret
      refine ⟨hfr, ?_⟩
      rw [HD.out]
      refine ⟨_, rfl, ⟨HROW.out.1, ?_⟩, HL15.out, by omega, hp8, hxp, hLr⟩
      rcases HROW.out.2 with h | ⟨g, c, cur, e1, e2, e3⟩
      · exact Or.inl h
      · exact Or.inr ⟨g, c, cur, e1, by omega, e3⟩
end Go.Proofs.YtjjjlilflbddoaaDoor
namespace Go.Proofs.YtjjjlilflbddoaaDoor
open Go.RowKit

/-- How many are there. -/
def posN (l : List Nat) : Nat := (l.map fun n => if 0 < n then 1 else 0).sum
theorem posN_take (l : List Nat) (k : Nat) (h : k < l.length) : posN (l.take (k + 1)) = posN (l.take k) + if 0 < l.getD k 0 then 1 else 0 := by
  unfold posN
  rw [List.take_succ_eq_append_getElem h, List.map_append, List.sum_append]
  simp only [List.getD, List.getElem?_eq_getElem h, Option.getD_some, List.map_cons, List.map_nil, List.sum_cons, List.sum_nil, Nat.add_zero]
theorem posN_le (l : List Nat) : ∀ k, posN (l.take k) ≤ k
  | 0 => by simp [posN]
  | k + 1 => by
    by_cases h : k < l.length
    · rw [posN_take l k h]; have := posN_le l k; split <;> omega
    · rw [List.take_of_length_le (by omega)]; have h1 := posN_le l k; rw [List.take_of_length_le (by omega)] at h1; omega
theorem share_cons (a : Nat) (r : List Nat) : Gz.share (a :: r) = shareOf a + Gz.share r := by simp [Gz.share, shareOf]
theorem posN_cons (a : Nat) (r : List Nat) : posN (a :: r) = (if 0 < a then 1 else 0) + posN r := by simp [posN]
theorem posN_zero : ∀ l : List Nat, posN l = 0 → l.sum = 0 ∧ Gz.share l = 0
  | [], _ => ⟨rfl, rfl⟩
  | a :: r, h => by
    rw [posN_cons] at h
    split at h
    · omega
    · have := posN_zero r (by omega)
      rw [share_cons, List.sum_cons, this.1, this.2]
      have ha : a = 0 := by omega
      subst ha
      exact ⟨rfl, rfl⟩
theorem posN_one : ∀ l : List Nat, posN l = 1 → 0 < l.sum ∧ Gz.share l = shareOf l.sum
  | [], h => by simp [posN] at h
  | a :: r, h => by
    rw [posN_cons] at h
    rw [share_cons, List.sum_cons]
    split at h
    · have := posN_zero r (by omega)
      rw [this.1, this.2]
      exact ⟨by omega, rfl⟩
    · have ih := posN_one r (by omega)
      have ha : a = 0 := by omega
      subst ha
      rw [Nat.zero_add, ih.2]
      exact ⟨ih.1, by unfold shareOf; simp⟩
theorem posN_sum : ∀ l : List Nat, posN l ≤ l.sum
  | [] => by simp [posN]
  | a :: r => by
    rw [posN_cons, List.sum_cons]
    have := posN_sum r
    split <;> omega
theorem shareOf_one (n : Nat) (h : 0 < n) (h15 : n ≤ 15) : shareOf n = 2 ^ 14 ↔ n = 1 := by
  rw [pow_share n h h15]
  constructor
  · intro e
    have := (Nat.pow_right_inj (a := 2) (by decide)).1 e
    omega
  · rintro rfl; rfl
theorem shareOf_ge (n : Nat) (h : 15 < n) : shareOf n ≠ 2 ^ 14 := by
  unfold shareOf
  rw [if_pos (by omega)]
  have : 32768 / 2 ^ n ≤ 32768 / 2 ^ 15 := Nat.div_le_div_left (Nat.pow_le_pow_right (by decide) (by omega)) (by decide)
  intro e
  rw [e] at this
  exact absurd this (by decide)
/-- What the document asks of the distances is what the program counts. -/
theorem few_iff (l : List Nat) : (posN l = 0 ∨ (posN l = 1 ∧ Gz.share l = 2 ^ 14)) ↔ l.sum ≤ 1 := by
  have h1 := posN_sum l
  constructor
  · rintro (h | ⟨h, hs⟩)
    · rw [(posN_zero l h).1]; omega
    · have := posN_one l h
      rw [this.2] at hs
      rcases Nat.lt_or_ge 15 l.sum with g | g
      · exact absurd hs (shareOf_ge _ g)
      · rw [(shareOf_one _ this.1 g).1 hs]; omega
  · intro h
    rcases Nat.eq_zero_or_pos (posN l) with h0 | h0
    · exact Or.inl h0
    · right
      have hp : posN l = 1 := by omega
      have := posN_one l hp
      refine ⟨hp, ?_⟩
      rw [this.2, show l.sum = 1 by omega]
      rfl

set_option maxRecDepth 100000 in
set_option maxHeartbeats 3200000 in
theorem rright_any (ba bb : Nat) (va vb : Value) (a b : List Nat) (w : World) (ha : Ins w ba va a) (hb : Ins w bb vb b) (la : Lens a) (lb : Lens b) (h257 : 257 ≤ a.length) (ha4 : a.length ≤ 400) (hb4 : b.length ≤ 400) :
    Calls Tryd.prog 29 #[va, vb] w fun e w' => e = .returned (.bool (Rf.right a b)) ∧ w' = w := by
  have HCA := hide (rcomplete_any ba va a w ha la ha4)
  have HCB := hide (rcomplete_any bb vb b w hb lb hb4)
  have HSB := hide (rshare_any bb vb b w hb lb hb4)
  have hpw := rpower_any 14 w (by omega)
  rw [show ((2 ^ 14 : Nat) : Int) = 16384 from rfl] at hpw
  have HPW := hide hpw
  clear hpw
  obtain ⟨a1, o1, c1, rfl, hc1⟩ := ha
  obtain ⟨a2, o2, c2, rfl, hc2⟩ := hb
  obtain ⟨rfl, hbl, h256⟩ := hc1 256 (by omega)
  have h15 := la 256 (by omega)
  have hfew := few_iff b
  have HFEW := hide hfew
  have hpl := posN_le b b.length
  rw [List.take_length] at hpl
  have hshl := share_le b b.length
  rw [List.take_length] at hshl
  clear hfew
  have hR : Rf.right a b = (Gz.complete a && (a.getD 256 0 != 0) && (decide (b.sum ≤ 1) || Gz.complete b)) := rfl
  rw [hR]
  clear hR
  generalize a.getD 256 0 = z at *
  obtain ⟨ca, hca⟩ : ∃ ca, ca = Gz.complete a := ⟨_, rfl⟩
  obtain ⟨cb, hcb⟩ : ∃ cb, cb = Gz.complete b := ⟨_, rfl⟩
  rw [← hca] at HCA ⊢
  rw [← hcb] at HCB ⊢
  clear hca hcb
  obtain ⟨fb, hfb⟩ : ∃ fb, fb = decide (b.sum ≤ 1) := ⟨_, rfl⟩
  rw [← hfb]
  have HFB := hide hfb
  clear hfb
  have hnot : ∀ (x : Bool) (w : World), (Op.unary .not (.bool x)).run Tryd.prog w = .ok (.bool (!x)) w := fun _ _ => rfl
  cases ca with
  | false =>
    go_enter Tryd.func29, Tryd.ntmps29
    go_wp2_with (go_at_call 47; refine HCA.out.mono ?_; rintro e w' ⟨rfl, hw⟩; obtain rfl := hw.symm)
    go_ret
    exact ⟨rfl, rfl⟩
  | true =>
    by_cases hz : z = 0
    · subst hz
      go_enter Tryd.func29, Tryd.ntmps29
      go_wp2_with (go_at_call 47; refine HCA.out.mono ?_; rintro e w' ⟨rfl, hw⟩; obtain rfl := hw.symm)
      go_ret
      exact ⟨rfl, rfl⟩
    · have hz' : ((z : Int) == 0) = false := by rw [beq_eq_false_iff_ne]; omega
      have hz2 : (z != 0) = true := by simp; omega
      rw [hz2]
      clear hz2
      go_enter Tryd.func29, Tryd.ntmps29
      go_wp2_with (first | (go_at_call 47; refine HCA.out.mono ?_; rintro e w' ⟨rfl, hw⟩; obtain rfl := hw.symm) | fail)
      go_loopw [5, 6] (fun sm i w2 => ∃ k : Nat, Hid (w2 = w) ∧ k ≤ b.length ∧ i = .int .i64 k ∧ sm = .int .i64 (posN (b.take k) : Nat)) (fun _ i _ => b.length - (intOf i).toNat)
      case atStart => exact ⟨0, rfl, Nat.zero_le _, rfl, rfl⟩
      case round =>
        obtain ⟨k, hww, hk, rfl, rfl⟩ := hrel
        obtain rfl := hww.out
        by_cases hkl : k < b.length
        · obtain ⟨rfl, hbb, hcc⟩ := hc2 k hkl
          have HC2 := hide hc2
          have HC1 := hide hc1
          clear hc2 hc1
          have h15b := lb k hkl
          have HPN := hide (posN_take b k hkl)
          have hpk := posN_le b k
          generalize b.getD k 0 = y at *
          generalize posN (b.take k) = pk at *
          by_cases hy : 0 < y
          · have hy' : (0 : Int) < y := by omega
            go_wp2
            exact ⟨⟨k + 1, (by first | exact rfl | exact True.intro), by omega, by go_num, by rw [HPN.out, if_pos hy]; go_num⟩, by simp [intOf]; omega⟩
          · have hy' : ¬ (0 : Int) < y := by omega
            go_wp2
            exact ⟨⟨k + 1, (by first | exact rfl | exact True.intro), by omega, by go_num, by rw [HPN.out, if_neg hy]; simp⟩, by simp [intOf]; omega⟩
        · rw [List.take_of_length_le (by omega)]
          generalize posN b = pn at *
          generalize Gz.share b = sb at *
          by_cases h0 : pn = 0
          · subst h0
            have hs : b.sum ≤ 1 := HFEW.out.1 (Or.inl rfl)
            obtain rfl : fb = true := by rw [HFB.out]; exact decide_eq_true hs
            clear hs
            go_wp2_with fail
            go_ret
            exact ⟨rfl, rfl⟩
          · have e0 : ((pn : Int) == 0) = false := by rw [beq_eq_false_iff_ne]; omega
            by_cases h1 : pn = 1
            · subst h1
              by_cases hs : sb = 2 ^ 14
              · have hs' : b.sum ≤ 1 := HFEW.out.1 (Or.inr ⟨rfl, hs⟩)
                obtain rfl : fb = true := by rw [HFB.out]; exact decide_eq_true hs'
                rw [hs, show ((2 ^ 14 : Nat) : Int) = 16384 from rfl] at HSB
                clear hs' hs
                go_wp2_with (first | (go_at_call 48; refine HSB.out.mono ?_; rintro e w' ⟨rfl, hw⟩; obtain rfl := hw.symm) | (go_at_call 49; refine HPW.out.mono ?_; rintro e w' ⟨rfl, hw⟩; obtain rfl := hw.symm) | (go_at_call 47; refine HCB.out.mono ?_; rintro e w' ⟨rfl, hw⟩; obtain rfl := hw.symm))
                go_ret
                exact ⟨rfl, rfl⟩
              · have hs' : ¬ b.sum ≤ 1 := fun h => by rcases HFEW.out.2 h with e | ⟨_, e⟩; omega; exact hs e
                obtain rfl : fb = false := by rw [HFB.out]; exact decide_eq_false hs'
                have es : ((sb : Int) == 16384) = false := by rw [beq_eq_false_iff_ne]; intro e; exact hs (by omega)
                clear hs' hs
                go_wp2_with (first | (go_at_call 48; refine HSB.out.mono ?_; rintro e w' ⟨rfl, hw⟩; obtain rfl := hw.symm) | (go_at_call 49; refine HPW.out.mono ?_; rintro e w' ⟨rfl, hw⟩; obtain rfl := hw.symm) | (go_at_call 47; refine HCB.out.mono ?_; rintro e w' ⟨rfl, hw⟩; obtain rfl := hw.symm))
                go_ret
                exact ⟨rfl, rfl⟩
            · have e1 : ((pn : Int) == 1) = false := by rw [beq_eq_false_iff_ne]; omega
              have hs' : ¬ b.sum ≤ 1 := fun h => by rcases HFEW.out.2 h with e | ⟨e, _⟩ <;> omega
              obtain rfl : fb = false := by rw [HFB.out]; exact decide_eq_false hs'
              clear hs'
              go_wp2_with (first | (go_at_call 48; refine HSB.out.mono ?_; rintro e w' ⟨rfl, hw⟩; obtain rfl := hw.symm) | (go_at_call 49; refine HPW.out.mono ?_; rintro e w' ⟨rfl, hw⟩; obtain rfl := hw.symm) | (go_at_call 47; refine HCB.out.mono ?_; rintro e w' ⟨rfl, hw⟩; obtain rfl := hw.symm))
              go_ret
              exact ⟨rfl, rfl⟩
end Go.Proofs.YtjjjlilflbddoaaDoor
