import Derived.Test.YtjjjlilflbddoaaDoorGRBase
namespace Go.Proofs.YtjjjlilflbddoaaDoor
open Go.RowKit

/-- What was met is told by the flags. -/
def DS.bad (s : DS) (q k : Nat) : DS := { s with pos := q, sh := k == 2, er := if k = 2 then 0 else k }

/-- How a reading part of the document's comes to its end. -/
def RRan {α : Type} (w : World) (rb : Nat) (s : DS) (okv : α → Value) (badv : Value → Prop) (r : Gz.Out α) (e : Ending) (w' : World) : Prop :=
  Fr (One rb) w w' ∧ match r with
  | .ok (a, q) => e = .returned (okv a) ∧ Da w' rb { s with pos := q }
  | .error k => (∃ v, e = .returned v ∧ badv v) ∧ ∃ q, Da w' rb (s.bad q k)

theorem rcoded_any (b : Nat) (v : Value) (l : List Nat) (w : World) (hb : Ins w b v l) (hl : Lens l) (hn : l.length ≤ 400) (h0 : 0 < l.length) :
    Calls Tryd.prog 68 #[v] w fun e w' => ∃ g, w.heap.size ≤ g ∧ e = .returned (.agg #[v, .slice (some ⟨g, 0, none⟩) l.length l.length]) ∧ w'.heap[g]? = some (.cells (ivs (codes l)) 3 (0, 0)) ∧ Fr No w w' := by
  have hf0 : Fr No w (w.alloc (.cells #[.slice none 0 0, .slice none 0 0] 117)) := (Fr.refl _ _).alloc _
  have hat := alloc_at w (.cells #[.slice none 0 0, .slice none 0 0] 117)
  have hc := rcodes_any b v l _ (hb.fr hf0 (no_no _)) hl hn h0
  have hb0 := hb
  obtain ⟨a, off, cap, rfl, hcc⟩ := hb
  have HC := hide hc
  have HF := hide hf0
  have HA := hide hat
  clear hc hf0 hat hcc hb0
  go_enter Tryd.func68, Tryd.ntmps68
  go_wp2_with fail
  refine HC.out.mono ?_
  rintro e w1 ⟨rfl, h1, hf1⟩
  have ha1 := hf1.at HA.out (no_no _)
  have k0 := cell_of ha1 0
  have k1 := cell_of ha1 1
  have e0 := frozen_of ha1 0
  have e1 := frozen_of ha1 1
  have HF1 := hide hf1
  have H1 := hide h1
  have HA1 := hide ha1
  have hsz : (w.alloc (.cells #[.slice none 0 0, .slice none 0 0] 117)).heap.size = w.heap.size + 1 := by simp
  clear hf1 h1 ha1
  go_wp2
  have hfin := set_of (set_of HA1.out 0 (.slice a l.length cap)) 1 (.slice (some ⟨w.heap.size + 1, 0, none⟩) l.length l.length)
  refine bodyPost_ret (results_cell_row rfl _ _ w.heap.size 117 _ (0, 0) _ rfl hfin Tryd.underlying117 rfl (by kernel_rfl)) rfl ?_
  refine ⟨w.heap.size + 1, by omega, rfl, ?_, ?_⟩
  · rw [set_other _ _ (by omega), set_other _ _ (by omega), ← hsz]; exact H1.out
  · exact ((HF.out.trans HF1.out).setCell (fun e => absurd e (Nat.lt_irrefl _)) _).setCell (fun e => absurd e (Nat.lt_irrefl _)) _

theorem sym_none (d : List UInt8) (l : List Nat) (p : Nat) (h : (Gz.makeCode l).longest = 0) : Gz.sym d (Gz.makeCode l) p = .error 6 := by
  unfold Gz.sym; rw [h]; rfl

set_option maxRecDepth 100000 in
set_option maxHeartbeats 3200000 in
theorem rsymbol_any (rb bl bc : Nat) (s : DS) (d : List UInt8) (l : List Nat) (lv cv : Value) (w : World) (hr : Da w rb s) (hd : s.d = d) (hn : d.length ≤ 4000) (hs : s.sh = false) (he : s.er = 0)
    (hl : Lens l) (hll : l.length ≤ 400) (h0 : 0 < l.length) (hi1 : Ins w bl lv l) (hi2 : Ins w bc cv (codes l)) (hbl : bl ≠ rb) (hbc : bc ≠ rb) :
    Calls Tryd.prog 99 #[.pointer (some ⟨rb, 0, none⟩), .agg #[lv, cv]] w (RRan w rb s (fun v => .int .i64 (v : Nat)) (fun v => v = .int .i64 (-1)) (Gz.sym d (Gz.makeCode l) s.pos)) := by
  have hrb := hr.lt
  have hi1' := hi1
  obtain ⟨a1, o1, cap1, rfl, hc1⟩ := hi1
  obtain ⟨a2, o2, cap2, rfl, hc2⟩ := hi2
  obtain ⟨rfl, hblt, _⟩ := hc1 0 h0
  obtain ⟨rfl, hbct, _⟩ := hc2 0 (by rw [codes_len]; exact h0)
  rw [codes_len] at hc2 ⊢
  have hf0 : Fr No w (w.alloc (.cells #[.slice (some ⟨bl, o1, none⟩) l.length cap1, .slice (some ⟨bc, o2, none⟩) l.length cap2] 117)) := (Fr.refl _ _).alloc _
  have hat := alloc_at w (.cells #[.slice (some ⟨bl, o1, none⟩) l.length cap1, .slice (some ⟨bc, o2, none⟩) l.length cap2] 117)
  have hr0 : Da (w.alloc (.cells #[.slice (some ⟨bl, o1, none⟩) l.length cap1, .slice (some ⟨bc, o2, none⟩) l.length cap2] 117)) rb s := hr.alloc _
  have hsh := rshare_any bl _ l _ (hi1'.fr hf0 (no_no _)) hl hll
  have hg := makeCode_longest l hl
  have HZ := hide (longest_none l hl)
  have HSH := hide hsh
  have HAT := hide hat
  have HR0 := hide hr0
  have HF0 := hide hf0
  have k3 := hr0.c3
  have e3 := hr0.fz 3
  have b0 := cell_of hat 0
  have b1 := cell_of hat 1
  have HR := hide hr
  clear hsh hat hr0 hf0 hr hi1'
  have HS := hide hs
  have HE := hide he
  clear hs he
  by_cases hz : Gz.share l = 0
  · have HD := hide (sym_none d l s.pos (HZ.out.1 hz))
    go_enter Tryd.func99, Tryd.ntmps99
    go_wp2_with fail
    refine HSH.out.mono ?_
    rintro e w1 ⟨rfl, rfl⟩
    rw [hz]
    go_wp2
    go_ret
    refine ⟨((Fr.refl _ _).setCell (fun _ => one_self rb) _).alloc _, ?_⟩
    rw [HD.out]
    refine ⟨⟨_, rfl, rfl⟩, s.pos, ?_⟩
    have h1 := (HR.out.s3 6 6 rfl).alloc (.cells #[.slice (some ⟨bl, o1, none⟩) l.length cap1, .slice (some ⟨bc, o2, none⟩) l.length cap2] 117)
    rw [show s.bad s.pos 6 = { s with er := 6 } by unfold DS.bad; rw [show (6 == 2) = false from rfl, ← HS.out]; rfl]
    exact h1
  · have hL1 : 1 ≤ (Gz.makeCode l).longest := by
      rcases Nat.eq_zero_or_pos (Gz.makeCode l).longest with h | h
      · exact absurd (HZ.out.2 h) hz
      · exact h
    have hz' : ((Gz.share l : Nat) : Int) ≠ 0 := by omega
    have hshl := share_le l l.length
    rw [List.take_length] at hshl
    generalize Gz.share l = z at *
    have HB0 := hide b0
    have HB1 := hide b1
    go_enter Tryd.func99, Tryd.ntmps99
    go_wp2_with fail
    refine HSH.out.mono ?_
    rintro e w1 ⟨rfl, rfl⟩
    clear b0 b1 k3 e3
    go_wp2
    go_loopw [4, 5, 6] (fun _ vv vn wr => ∃ n v p : Nat, 1 ≤ n ∧ n ≤ (Gz.makeCode l).longest ∧ vn = .int .i64 n ∧ vv = .int .i64 v ∧ fst (Gz.counts l) n ≤ v ∧ v < 2 ^ (n - 1) ∧
      Hid (Gz.symGo d (Gz.makeCode l) ((Gz.makeCode l).longest + 1 - n) n v (fst (Gz.counts l) n) ((Gz.counts l).take n).sum p = Gz.sym d (Gz.makeCode l) s.pos) ∧ Da wr rb { s with pos := p } ∧
      Hid (wr.heap[w.heap.size]? = some (.cells #[.slice (some ⟨bl, o1, none⟩) l.length cap1, .slice (some ⟨bc, o2, none⟩) l.length cap2] 117 (0, 0))) ∧ Fr (One rb) w wr) (fun _ _ n _ => 16 - (intOf n).toNat)
    case atStart =>
      refine ⟨1, 0, s.pos, by omega, hL1, rfl, rfl, ?_, by decide, ?_, HR0.out, HAT.out, HF0.out.of_no⟩
      · rw [show fst (Gz.counts l) 1 = 2 * 0 + (Gz.counts l).getD 0 0 from rfl, counts_nil]; omega
      · unfold Hid
        rw [show fst (Gz.counts l) 1 = 2 * 0 + (Gz.counts l).getD 0 0 from rfl, counts_nil, sum_take_succ _ _ (by rw [counts_length]; omega), counts_nil]
        rfl
    case round =>
      obtain ⟨n, v, p, h1, hnl, rfl, rfl, hfv, hv2, hgo, hrr, hbox, hfr⟩ := hrel
      have h2n : 2 ^ (n - 1) ≤ 2 ^ 14 := Nat.pow_le_pow_right (by decide) (by omega)
      have hcnl := counts_length l
      by_cases hb : p < 8 * d.length
      · have hbv := bitv_lt d p
        obtain ⟨t, ht⟩ : ∃ t, t = 2 * v + Gz.bitv d p := ⟨_, rfl⟩
        have ht2 : (2 * (v : Int) + (Gz.bitv d p : Nat)) = (t : Nat) := by omega
        have htl : t < 2 ^ 15 := by omega
        have HT := hide ht
        clear ht
        have hft : 2 * fst (Gz.counts l) n ≤ t := by rw [HT.out]; omega
        have HST : Hid (Gz.sym d (Gz.makeCode l) s.pos = if t < 2 * fst (Gz.counts l) n + (Gz.counts l).getD n 0 then .ok ((Gz.makeCode l).symbols.getD (((Gz.counts l).take n).sum + t - 2 * fst (Gz.counts l) n) 0, p + 1)
            else Gz.symGo d (Gz.makeCode l) ((Gz.makeCode l).longest - n) (n + 1) t (fst (Gz.counts l) (n + 1)) ((Gz.counts l).take (n + 1)).sum (p + 1)) := by
          unfold Hid
          rw [← hgo.out, show (Gz.makeCode l).longest + 1 - n = ((Gz.makeCode l).longest - n) + 1 by omega]
          conv => lhs; unfold Gz.symGo
          rw [if_pos hb, ← HT.out, sum_take_succ _ _ (by omega)]
          rfl
        have HSH2 := HS
        go_wp2_with (go_at_call 63; refine (rbit_ok rb _ d _ hrr hd hn HS.out (by exact hb)).mono ?_; rintro e w1 ⟨rfl, hr1, hf1⟩; have k2 := hr1.c2; rw [show ({ s with pos := p + 1 } : DS).sh = false from HS.out] at k2)
        have hbx1 := hf1.at hbox.out (one_ne (show w.heap.size ≠ rb by omega))
        have x0 := cell_of hbx1 0
        have x1 := cell_of hbx1 1
        have HBX1 := hide hbx1
        have HR1 := hide hr1
        have HF1 := hide hf1
        have HRR := hide hrr
        clear hbx1 hrr
        go_loopw [8, 9] (fun vo vi w2 => ∃ (i : Nat) (nb : Bool), Hid (w2 = w1) ∧ i ≤ l.length ∧ vi = .int .i64 i ∧ vo = .bool nb ∧ Hid (nb = true ↔ ∀ j, j < i → l.getD j 0 ≤ n) ∧ Hid (∀ j, j < i → l.getD j 0 = n → (codes l).getD j 0 ≠ t)) (fun _ i _ => l.length - (intOf i).toNat)
        case atStart => exact ⟨0, true, rfl, Nat.zero_le _, rfl, rfl, ⟨fun _ j hj => by omega, fun _ => rfl⟩, fun j hj => by omega⟩
        case round =>
          obtain ⟨i, nb, hww, hil, rfl, rfl, hnb, hno⟩ := hrel
          obtain rfl := hww.out
          by_cases hi : i < l.length
          · have hx := ((hfr.trans HF1.out).cell (p := ⟨bl, o1 + i, none⟩) hblt (one_ne hbl)).trans (hc1 i hi).2.2
            have hy := ((hfr.trans HF1.out).cell (p := ⟨bc, o2 + i, none⟩) hbct (one_ne hbc)).trans (hc2 i hi).2.2
            have h15 := hl i hi
            have HIT := hide (fun e ec => code_hit l hl i n t hi (by omega) e ec)
            have HNB1 : Hid (∀ c : Bool, (c = true ↔ nb = true ∧ l.getD i 0 ≤ n) → (c = true ↔ ∀ j, j < i + 1 → l.getD j 0 ≤ n)) := by
              intro c hc
              rw [hc, hnb.out]
              constructor
              · rintro ⟨h1, h2⟩ j hj
                by_cases e : j = i
                · subst e; exact h2
                · exact h1 j (by omega)
              · intro h
                exact ⟨fun j hj => h j (by omega), h i (by omega)⟩
            have HNO1 : Hid (¬ (l.getD i 0 = n ∧ (codes l).getD i 0 = t) → ∀ j, j < i + 1 → l.getD j 0 = n → (codes l).getD j 0 ≠ t) := by
              intro h j hj e
              by_cases e2 : j = i
              · subst e2; exact fun ec => h ⟨e, ec⟩
              · exact hno.out j (by omega) e
            have hycode : (codes l).getD i 0 ≤ 100000000 := by
              rw [codes_get l i hi]
              split
              · have h1 := fst_max l hl hll (l.getD i 0) (by omega)
                have h2 := rk_lt l hl i _ hi (by assumption) rfl
                have h3 := counts_le l hl hll (l.getD i 0)
                omega
              · omega
            have HC1 := hide hc1
            have HC2 := hide hc2
            clear hc1 hc2
            generalize l.getD i 0 = x at *
            generalize (codes l).getD i 0 = y at *
            by_cases hxn : x = n
            · have ex : ((x : Int) == (n : Int)) = true := by rw [beq_iff_eq]; omega
              by_cases hyt : y = t
              · have ey : ((y : Int) == (t : Int)) = true := by rw [beq_iff_eq]; omega
                have HXN := hide hxn
                have HYT := hide hyt
                clear hxn hyt
                go_wp2
                go_ret
                refine ⟨hfr.trans HF1.out, ?_⟩
                obtain ⟨g1, g2, g3⟩ := HIT.out HXN.out HYT.out
                rw [HST.out, if_pos g2, g3]
                exact ⟨rfl, HR1.out⟩
              · have ey : ((y : Int) == (t : Int)) = false := by rw [beq_eq_false_iff_ne]; omega
                cases nb with
                | true =>
                  have HXN := hide hxn
                  have HYT := hide hyt
                  have hxl : (x : Int) ≤ (n : Int) := by omega
                  clear hxn hyt
                  go_wp2
                  exact ⟨⟨i + 1, true, (by first | exact rfl | exact True.intro), by omega, by go_num, rfl, HNB1.out true ⟨fun _ => ⟨rfl, by omega⟩, fun _ => rfl⟩, HNO1.out (fun h => HYT.out h.2)⟩, by simp [intOf]; omega⟩
                | false =>
                  have HXN := hide hxn
                  have HYT := hide hyt
                  clear hxn hyt
                  go_wp2
                  exact ⟨⟨i + 1, false, (by first | exact rfl | exact True.intro), by omega, by go_num, rfl, HNB1.out false ⟨fun h => by simp at h, fun h => by simp at h⟩, HNO1.out (fun h => HYT.out h.2)⟩, by simp [intOf]; omega⟩
            · have ex : ((x : Int) == (n : Int)) = false := by rw [beq_eq_false_iff_ne]; omega
              have HXN := hide hxn
              clear hxn
              cases nb with
              | true =>
                by_cases hxl : x ≤ n
                · have hxl' : (x : Int) ≤ (n : Int) := by omega
                  go_wp2
                  exact ⟨⟨i + 1, true, (by first | exact rfl | exact True.intro), by omega, by go_num, rfl, HNB1.out true ⟨fun _ => ⟨rfl, hxl⟩, fun _ => rfl⟩, HNO1.out (fun h => HXN.out h.1)⟩, by simp [intOf]; omega⟩
                · have hxl' : ¬ (x : Int) ≤ (n : Int) := by omega
                  go_wp2
                  exact ⟨⟨i + 1, false, (by first | exact rfl | exact True.intro), by omega, by go_num, by first | rfl | simp, HNB1.out false ⟨fun h => by simp at h, fun h => absurd h.2 hxl⟩, HNO1.out (fun h => HXN.out h.1)⟩, by simp [intOf]; omega⟩
              | false =>
                go_wp2
                exact ⟨⟨i + 1, false, (by first | exact rfl | exact True.intro), by omega, by go_num, rfl, HNB1.out false ⟨fun h => by simp at h, fun h => by simp at h⟩, HNO1.out (fun h => HXN.out h.1)⟩, by simp [intOf]; omega⟩
          · have hie : i = l.length := by omega
            subst hie
            have hmiss := code_miss l hl n t (by omega) hno.out hft
            have HMS : Hid (Gz.sym d (Gz.makeCode l) s.pos = Gz.symGo d (Gz.makeCode l) ((Gz.makeCode l).longest - n) (n + 1) t (fst (Gz.counts l) (n + 1)) ((Gz.counts l).take (n + 1)).sum (p + 1)) := by
              unfold Hid; rw [HST.out, if_neg hmiss]
            have hfn : fst (Gz.counts l) (n + 1) ≤ t := by simp only [fst]; omega
            have hpn : t < 2 ^ n := by
              have : 2 ^ n = 2 * 2 ^ (n - 1) := by rw [show n = (n - 1) + 1 by omega, Nat.pow_succ]; simp; omega
              rw [HT.out]; omega
            have HMI := hide hmiss
            have HPN := hide hpn
            have HFN := hide hfn
            clear hmiss hpn hfn
            cases nb with
            | true =>
              have hle := longest_le l n (hnb.out.1 rfl)
              have k3 := HR1.out.c3
              have e3 := HR1.out.fz 3
              go_wp2
              go_ret
              refine ⟨(hfr.trans HF1.out).setCell (fun _ => one_self rb) _, ?_⟩
              rw [HMS.out, show (Gz.makeCode l).longest - n = 0 by omega]
              refine ⟨⟨_, rfl, rfl⟩, p + 1, ?_⟩
              rw [show s.bad (p + 1) 6 = { s with pos := p + 1, er := 6 } by unfold DS.bad; rw [show (6 == 2) = false from rfl, ← HS.out]; rfl]
              exact HR1.out.s3 6 6 rfl
            | false =>
              have hgt : n < (Gz.makeCode l).longest := by
                rcases Nat.lt_or_ge n (Gz.makeCode l).longest with h | h
                · exact h
                · have := hnb.out.2 (fun j hj => Nat.le_trans (longest_ge l j hj) h)
                  simp at this
              go_wp2
              refine ⟨⟨_, .int .i64 (t : Nat), .int .i64 ((n : Int) + 1), ⟨n + 1, by omega, by omega, by go_num, t, rfl, HFN.out, HPN.out, p + 1, ?_, HR1.out, hfr.trans HF1.out⟩, rfl, rfl, rfl⟩, by simp [intOf]; omega⟩
              unfold Hid
              rw [HMS.out, show (Gz.makeCode l).longest + 1 - (n + 1) = (Gz.makeCode l).longest - n by omega]
      · have HD : Hid (Gz.sym d (Gz.makeCode l) s.pos = .error 2) := by
          unfold Hid
          rw [← hgo.out, show (Gz.makeCode l).longest + 1 - n = ((Gz.makeCode l).longest - n) + 1 by omega]
          simp only [Gz.symGo]
          rw [if_neg hb]
        go_wp2_with (go_at_call 63; refine (rbit_no rb _ d _ hrr hd hn (Or.inr (by show 8 * d.length ≤ p; omega))).mono ?_; rintro e w1 ⟨rfl, hr1, hf1⟩; have k2 : w1.cell? ⟨rb, 2, none⟩ = some (.bool true) := hr1.c2)
        go_ret
        refine ⟨hfr.trans hf1, ?_⟩
        rw [HD.out]
        refine ⟨⟨_, rfl, rfl⟩, p, ?_⟩
        rw [show s.bad p 2 = { s with pos := p, sh := true } by unfold DS.bad; rw [show (2 == 2) = true from rfl, if_pos rfl, ← HE.out]]
        exact hr1
end Go.Proofs.YtjjjlilflbddoaaDoor
namespace Go.Proofs.YtjjjlilflbddoaaDoor
open Go.RowKit

theorem len_form : ∀ x, x < 28 → 8 ≤ x → Gz.lenFrom.getD x 0 = 3 + 2 ^ (x / 4 - 1 + 2) + (x % 4) * 2 ^ (x / 4 - 1) := by decide
theorem far_form : ∀ x, x < 30 → 4 ≤ x → Gz.distFrom.getD x 0 = 1 + 2 ^ (x / 2 - 1 + 1) + (x % 2) * 2 ^ (x / 2 - 1) := by decide
theorem len_small : ∀ x, x < 8 → Gz.lenFrom.getD x 0 = 3 + x := by decide
theorem far_small : ∀ x, x < 4 → Gz.distFrom.getD x 0 = 1 + x := by decide

theorem agg_two {a b a' b' : Int} (h1 : a = a') (h2 : b = b') : Ending.returned (.agg #[.int .i64 a, .int .i64 b]) = .returned (.agg #[.int .i64 a', .int .i64 b']) := by rw [h1, h2]

set_option maxHeartbeats 800000 in
theorem rlength_any (x : Nat) (hx : x < 29) (w : World) :
    Calls Tryd.prog 70 #[.int .i64 ((x : Int) + 257)] w fun e w' => e = .returned (.agg #[.int .i64 (Gz.lenFrom.getD x 0 : Nat), .int .i64 (Gz.lenBits (x + 257) : Nat)]) ∧ Fr No w w' := by
  by_cases h8 : x < 8
  · have h1 := len_small x h8
    have h2 : Gz.lenBits (x + 257) = 0 := by unfold Gz.lenBits; rw [if_pos (by omega)]
    rw [h1, h2]
    clear h1 h2
    go_enter Tryd.func70, Tryd.ntmps70
    go_wp2
    refine bodyPost_ret (results_cell_row rfl _ _ w.heap.size 121 _ (0, 0) _ rfl (alloc_at w _) Tryd.underlying121 rfl (by kernel_rfl)) rfl ?_
    exact ⟨agg_two (by omega) rfl, (Fr.refl _ _).alloc _⟩
  · by_cases h28 : x = 28
    · subst h28
      go_enter Tryd.func70, Tryd.ntmps70
      go_wp2
      refine bodyPost_ret (results_cell_row rfl _ _ w.heap.size 121 _ (0, 0) _ rfl (alloc_at w _) Tryd.underlying121 rfl (by kernel_rfl)) rfl ?_
      exact ⟨rfl, (Fr.refl _ _).alloc _⟩
    · have h1 := len_form x (by omega) (by omega)
      have h2 : Gz.lenBits (x + 257) = x / 4 - 1 := by unfold Gz.lenBits; rw [if_neg (by omega)]; omega
      obtain ⟨n, hn⟩ : ∃ n, n = x / 4 - 1 := ⟨_, rfl⟩
      rw [h1, h2, ← hn]
      have hp1 := fun w => rpower_any (n + 2) w (by omega)
      have hp2 := fun w => rpower_any n w (by omega)
      have hy4 : 2 ^ (n + 2) = 4 * 2 ^ n := by rw [Nat.pow_add]; omega
      have hyl : 2 ^ n ≤ 2 ^ 6 := Nat.pow_le_pow_right (by decide) (by omega)
      have ex : ((x : Int) == 28) = false := by rw [beq_eq_false_iff_ne]; omega
      have en : (x : Int) / 4 - 1 = (n : Nat) := by omega
      obtain ⟨m, hm⟩ : ∃ m, m = x % 4 := ⟨_, rfl⟩
      rw [← hm]
      have em : ((x : Int) % 4) = (m : Nat) := by omega
      have em2 : ((x : Int).tmod 4) = (m : Nat) := by rw [Int.tmod_eq_emod_of_nonneg (by omega)]; omega
      rw [hy4] at hp1 ⊢
      have hm4 : m < 4 := by omega
      obtain ⟨z, hz⟩ : ∃ z, z = m * 2 ^ n := ⟨_, rfl⟩
      have hzl : z ≤ 3 * 2 ^ n := by rw [hz]; exact Nat.mul_le_mul_right _ (by omega)
      have ez : (m : Int) * ((2 ^ n : Nat) : Int) = (z : Nat) := by rw [hz]; push_cast; rfl
      rw [← hz]
      clear hz hy4 h1 h2
      generalize 2 ^ n = y at *
      have HP1 := hide hp1
      have HP2 := hide hp2
      clear hp1 hp2 hn hm
      go_enter Tryd.func70, Tryd.ntmps70
      go_wp2_with fail
      refine Calls.mono (by have := HP1.out (w.alloc (.cells #[.int .i64 0, .int .i64 0] 121)); push_cast at this; exact this) ?_
      rintro e w1 ⟨rfl, rfl⟩
      go_wp2_with fail
      refine (HP2.out _).mono ?_
      rintro e w1 ⟨rfl, rfl⟩
      go_wp2
      refine bodyPost_ret (results_cell_row rfl _ _ w.heap.size 121 _ (0, 0) _ rfl (alloc_at w _) Tryd.underlying121 rfl (by kernel_rfl)) rfl ?_
      exact ⟨agg_two (by omega) rfl, (Fr.refl _ _).alloc _⟩

set_option maxHeartbeats 800000 in
theorem rfar_any (x : Nat) (hx : x < 30) (w : World) :
    Calls Tryd.prog 71 #[.int .i64 (x : Int)] w fun e w' => e = .returned (.agg #[.int .i64 (Gz.distFrom.getD x 0 : Nat), .int .i64 (Gz.distBits x : Nat)]) ∧ Fr No w w' := by
  by_cases h8 : x < 4
  · have h1 := far_small x h8
    have h2 : Gz.distBits x = 0 := by unfold Gz.distBits; rw [if_pos (by omega)]
    rw [h1, h2]
    clear h1 h2
    go_enter Tryd.func71, Tryd.ntmps71
    go_wp2
    refine bodyPost_ret (results_cell_row rfl _ _ w.heap.size 121 _ (0, 0) _ rfl (alloc_at w _) Tryd.underlying121 rfl (by kernel_rfl)) rfl ?_
    exact ⟨agg_two (by omega) rfl, (Fr.refl _ _).alloc _⟩
  · have h1 := far_form x (by omega) (by omega)
    have h2 : Gz.distBits x = x / 2 - 1 := by unfold Gz.distBits; rw [if_neg (by omega)]
    obtain ⟨n, hn⟩ : ∃ n, n = x / 2 - 1 := ⟨_, rfl⟩
    rw [h1, h2, ← hn]
    have hp1 := fun w => rpower_any (n + 1) w (by omega)
    have hp2 := fun w => rpower_any n w (by omega)
    have hy4 : 2 ^ (n + 1) = 2 * 2 ^ n := by rw [Nat.pow_add]; omega
    have hyl : 2 ^ n ≤ 2 ^ 13 := Nat.pow_le_pow_right (by decide) (by omega)
    have en : (x : Int) / 2 - 1 = (n : Nat) := by omega
    obtain ⟨m, hm⟩ : ∃ m, m = x % 2 := ⟨_, rfl⟩
    rw [← hm]
    have em : ((x : Int) % 2) = (m : Nat) := by omega
    have em2 : ((x : Int).tmod 2) = (m : Nat) := by rw [Int.tmod_eq_emod_of_nonneg (by omega)]; omega
    rw [hy4] at hp1 ⊢
    have hm4 : m < 2 := by omega
    obtain ⟨z, hz⟩ : ∃ z, z = m * 2 ^ n := ⟨_, rfl⟩
    have hzl : z ≤ 1 * 2 ^ n := by rw [hz]; exact Nat.mul_le_mul_right _ (by omega)
    have ez : (m : Int) * ((2 ^ n : Nat) : Int) = (z : Nat) := by rw [hz]; push_cast; rfl
    rw [← hz]
    clear hz hy4 h1 h2
    generalize 2 ^ n = y at *
    have HP1 := hide hp1
    have HP2 := hide hp2
    clear hp1 hp2 hn hm
    go_enter Tryd.func71, Tryd.ntmps71
    go_wp2_with fail
    refine Calls.mono (by have := HP1.out (w.alloc (.cells #[.int .i64 0, .int .i64 0] 121)); push_cast at this; exact this) ?_
    rintro e w1 ⟨rfl, rfl⟩
    go_wp2_with fail
    refine (HP2.out _).mono ?_
    rintro e w1 ⟨rfl, rfl⟩
    go_wp2
    refine bodyPost_ret (results_cell_row rfl _ _ w.heap.size 121 _ (0, 0) _ rfl (alloc_at w _) Tryd.underlying121 rfl (by kernel_rfl)) rfl ?_
    exact ⟨agg_two (by omega) rfl, (Fr.refl _ _).alloc _⟩
end Go.Proofs.YtjjjlilflbddoaaDoor
