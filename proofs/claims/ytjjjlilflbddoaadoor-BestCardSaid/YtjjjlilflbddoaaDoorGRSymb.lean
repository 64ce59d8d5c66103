import Derived.Test.YtjjjlilflbddoaaDoorRCopy
namespace Go.Proofs.YtjjjlilflbddoaaDoor
open Go.RowKit

section
variable {B rb : Nat} {K L : List Nat} {d : List UInt8} {lim : Nat} {x x' : Rf.D} {w w' : World} {s s' : DS}
/-- New blocks are to stay too. -/
theorem RL.more (h : RL B rb K d lim x w s) (f : Fr No w w') (hL : ∀ k, k ∈ L → w.heap.size ≤ k ∧ k < w'.heap.size) : RL B rb (L ++ K) d lim x w' s := by
  have h' := h.no f
  obtain ⟨ks, hrw, hkk⟩ := h.rows
  have hrb := h.da.lt
  refine ⟨h'.da, h'.hd, h'.slim, h'.sh, h'.er, h'.pos, ⟨ks, ⟨fun j => ownsRow_fr (hrw.row j) f (fun _ _ => no_no _), hrw.apart, fun j b hb => ?_⟩, fun i hi => ?_⟩, h'.dn, h'.bsz, h'.brb, ?_, fun k hk => ?_, h'.limle, h'.len, h'.dlen, fun k hk => ?_⟩
  · refine ⟨(hrw.far j b hb).1, fun e => ?_⟩
    rcases List.mem_append.1 e with e | e
    · have := (hL b e).1; have := (ownsRow_lt (hrw.row j) hb).2; omega
    · exact (hrw.far j b hb).2 e
  · obtain ⟨b, hb, hin⟩ := hkk i hi
    exact ⟨b, List.mem_append.2 (Or.inr hb), hin.fr f (no_no _)⟩
  · intro e
    rcases List.mem_append.1 e with e | e
    · have := (hL rb e).1; omega
    · exact h.rbK e
  · rcases List.mem_append.1 hk with e | e
    · exact (hL k e).2
    · exact h'.klt k e
  · rcases List.mem_append.1 hk with e | e
    · exact Nat.le_trans h.bsz (hL k e).1
    · exact h'.kge k e
theorem Fr.less (f : Fr (Own B (L ++ K)) w w') : Fr (Own B K) w w' := f.mono (fun _ _ e => ⟨e.1, fun hk => e.2 (List.mem_append.2 (Or.inr hk))⟩)
theorem CodeIn.more {v : Value} {l : List Nat} (h : CodeIn w K v l) : CodeIn w (L ++ K) v l := by
  obtain ⟨bl, bc, lv, cv, e, h1, h2, r⟩ := h
  exact ⟨bl, bc, lv, cv, e, List.mem_append.2 (Or.inr h1), List.mem_append.2 (Or.inr h2), r⟩

def flagOf : Option Value → Bool
  | some (.bool b) => b
  | _ => true
def numOf : Option Value → Int
  | some v => intOf v
  | none => 1
/-- How many rounds may be left. -/
def leftOf (rb N : Nat) (w : World) : Nat := if flagOf (w.cell? ⟨rb, 2, none⟩) = false ∧ numOf (w.cell? ⟨rb, 3, none⟩) = 0 then N + 1 - (numOf (w.cell? ⟨rb, 1, none⟩)).toNat else 0
theorem RL.left (h : RL B rb K d lim x w s) (N : Nat) : leftOf rb N w = if x.st = 0 then N + 1 - x.pos else 0 := by
  unfold leftOf
  rw [h.da.c2, h.da.c3, h.da.c1]
  by_cases h0 : x.st = 0
  · rw [if_pos h0, if_pos ⟨by show s.sh = false; exact h.sh0 h0, by show ((s.er : Nat) : Int) = 0; rw [h.er0 h0]; rfl⟩]
    show N + 1 - ((s.pos : Nat) : Int).toNat = N + 1 - x.pos
    rw [(h.pos h0).1]; simp
  · rw [if_neg h0, if_neg]
    rintro ⟨h1, h2⟩
    have h1 : s.sh = false := h1
    have h2 : ((s.er : Nat) : Int) = 0 := h2
    have h3 := h.sh
    have h4 := h.er
    rw [h1] at h3
    have h5 : x.st ≠ 2 := fun e => by rw [e] at h3; cases h3
    rw [if_neg h5] at h4
    omega

theorem rok_good (h : RL B rb K d lim x w s) (h0 : x.st = 0) : Calls Tryd.prog 42 #[.pointer (some ⟨rb, 0, none⟩)] w fun e w' => e = .returned (.bool true) ∧ w' = w := by
  refine (rok_any rb s w h.da).mono ?_
  rw [h.good, h0]; exact fun _ _ h => h
theorem rok_bad (h : RL B rb K d lim x w s) (h0 : x.st ≠ 0) : Calls Tryd.prog 42 #[.pointer (some ⟨rb, 0, none⟩)] w fun e w' => e = .returned (.bool false) ∧ w' = w := by
  refine (rok_any rb s w h.da).mono ?_
  rw [h.good, show (x.st == 0) = false by rw [beq_eq_false_iff_ne]; exact h0]; exact fun _ _ h => h
end

theorem symsN_bad (d : List UInt8) (lim : Nat) (t : Gz.Table) (n : Nat) (x : Rf.D) (h : x.st ≠ 0) : Rf.symsN d lim t n x = x := by
  cases n with
  | zero => rfl
  | succ n => unfold Rf.symsN; rw [if_neg h]

theorem copyN_pos (lim far : Nat) : ∀ (n : Nat) (x : Rf.D), (Rf.copyN lim far n x).pos = x.pos
  | 0, x => rfl
  | n + 1, x => by
    unfold Rf.copyN
    split
    · rw [copyN_pos lim far n, put_pos]
    · rfl
theorem lenDist_ok {d : List UInt8} {fc : Gz.Code} {sy p q : Nat} {a : Nat × Nat} (h : Rf.lenDist d fc sy p = .ok (a, q)) (_hp : p ≤ 8 * d.length) : p ≤ q ∧ q ≤ 8 * d.length := by
  unfold Rf.lenDist at h
  cases hn : Gz.num d (Gz.lenBits sy) p with
  | error k => rw [hn] at h; cases h
  | ok okk =>
    obtain ⟨v, p1⟩ := okk
    have h1 := num_ok hn
    rw [hn] at h
    simp only [Gz.Out.bind] at h
    cases hd : Gz.dist d fc p1 with
    | error k => rw [hd] at h; cases h
    | ok okk =>
      obtain ⟨f, p2⟩ := okk
      have h2 := dist_ok hd
      rw [hd] at h
      injection h with h; injection h with _ h
      omega
theorem copied_pos (d : List UInt8) (lim : Nat) (fc : Gz.Code) (sy : Nat) (x : Rf.D) (hp : x.pos ≤ 8 * d.length) : x.pos ≤ (Rf.copied d lim fc sy x).pos := by
  unfold Rf.copied
  split
  · exact Nat.le_refl _
  · split
    · exact Nat.le_refl _
    · rename_i h
      have := lenDist_ok h hp
      split
      · exact this.1
      · rw [copyN_pos]; exact this.1
end Go.Proofs.YtjjjlilflbddoaaDoor
namespace Go.Proofs.YtjjjlilflbddoaaDoor
open Go.RowKit

set_option maxRecDepth 100000 in
set_option maxHeartbeats 6400000 in
theorem rsymbols_any (B rb : Nat) (K : List Nat) (d : List UInt8) (lim : Nat) (x : Rf.D) (w : World) (s : DS) (v1 v2 : Value) (l1 l2 : List Nat) (h : RL B rb K d lim x w s) (h0 : x.st = 0) (hc1 : CodeIn w K v1 l1) (hc2 : CodeIn w K v2 l2) :
    Calls Tryd.prog 69 #[.pointer (some ⟨rb, 0, none⟩), v1, v2] w fun e w' => e = .returned (.tuple #[]) ∧ (∃ L s', RL B rb (L ++ K) d lim (Rf.syms d lim ⟨Gz.makeCode l1, Gz.makeCode l2⟩ x) w' s') ∧ Fr (Own B K) w w' := by
  have hc1' := hc1
  have hc2' := hc2
  obtain ⟨bl1, bc1, a1, b1, rfl, _⟩ := hc1
  obtain ⟨bl2, bc2, a2, b2, rfl, _⟩ := hc2
  have hdl := h.dlen
  have hrbl := h.da.lt
  have hp := h.pos h0
  have hb1 := alloc_at w (.cells #[a1, b1] 117)
  have hf1 : Fr No w ((w.alloc (.cells #[a1, b1] 117)).alloc (.cells #[a2, b2] 117)) := ((Fr.refl _ _).alloc _).alloc _
  have hx1 := alloc_old (o' := .cells #[a2, b2] 117) hb1
  have hx2 := alloc_at (w.alloc (.cells #[a1, b1] 117)) (.cells #[a2, b2] 117)
  rw [show (w.alloc (.cells #[a1, b1] 117)).heap.size = w.heap.size + 1 by simp] at hx2
  have hL0 := h.more (L := [w.heap.size, w.heap.size + 1]) hf1 (fun k hk => by simp at hk ⊢; omega)
  obtain ⟨KK, hKK⟩ : ∃ KK, KK = [w.heap.size, w.heap.size + 1] ++ K := ⟨_, rfl⟩
  rw [← hKK] at hL0
  have hk1 : w.heap.size ∈ KK := by rw [hKK]; simp
  have hk2 : w.heap.size + 1 ∈ KK := by rw [hKK]; simp
  have hcd1 : CodeIn w KK (.agg #[a1, b1]) l1 := by rw [hKK]; exact hc1'.more
  have hcd2 : CodeIn w KK (.agg #[a2, b2]) l2 := by rw [hKK]; exact hc2'.more
  obtain ⟨_, _, _, _, _, _, _, _, _, _, hl400, _⟩ := hc1'
  have HF1 := hide hf1
  have HX1 := hide hx1
  have HX2 := hide hx2
  have HL0 := hide hL0
  have HC1 := hide hcd1
  have HC2 := hide hcd2
  have HKK := hide hKK
  have H0 := hide h0
  clear h h0 hb1 hf1 hx1 hx2 hL0 hcd1 hcd2 hKK hc2'
  obtain ⟨T, hT⟩ : ∃ T : Gz.Table, T = ⟨Gz.makeCode l1, Gz.makeCode l2⟩ := ⟨_, rfl⟩
  obtain ⟨R, hR⟩ : ∃ R, R = Rf.syms d lim ⟨Gz.makeCode l1, Gz.makeCode l2⟩ x := ⟨_, rfl⟩
  rw [← hR]
  have HR : Hid (Rf.symsN d lim T (8 * d.length + 1 - x.pos) x = R) := by rw [hT, hR]; exact rfl
  have HT := hide hT
  clear hR hT
  go_enter Tryd.func69, Tryd.ntmps69
  go_wp2_with fail
  go_loopw [6, 7] (fun _ _ wr => ∃ (m : Nat) (y : Rf.D) (s' : DS), Hid (Rf.symsN d lim T m y = R) ∧ (y.st = 0 → 8 * d.length + 1 - y.pos ≤ m) ∧ RL B rb KK d lim y wr s' ∧ Hid (wr.heap[w.heap.size]? = some (.cells #[a1, b1] 117 (0, 0))) ∧ Hid (wr.heap[w.heap.size + 1]? = some (.cells #[a2, b2] 117 (0, 0))) ∧ Fr (Own B KK) w wr) (fun _ _ wr => leftOf rb (8 * d.length) wr)
  case atStart => exact ⟨_, x, s, HR.out, fun _ => Nat.le_refl _, HL0.out, HX1.out, HX2.out, HF1.out.of_no⟩
  case round =>
    obtain ⟨m, y, s', hgo, hm, hLr, hx1, hx2, hfr⟩ := hrel
    have hleft := hLr.left (8 * d.length)
    have HLE := hide hleft
    clear hleft
    by_cases hy0 : y.st = 0
    · have hyp := hLr.pos hy0
      have hm := hm hy0
      have HOK := hide (rok_good hLr hy0)
      have z0 := cell_of hx1.out 0
      have z1 := cell_of hx1.out 1
      have k1 := hLr.da.c1
      rw [hyp.1] at k1
      have HSY := hide (rsym_any B rb KK d lim y wr s' _ l1 hLr hy0 (HC1.out.fr hfr))
      obtain ⟨m', rfl⟩ : ∃ m', m = m' + 1 := ⟨m - 1, by omega⟩
      have HGO : Hid (R = if (Rf.symStep d lim T y).2 then (Rf.symStep d lim T y).1 else Rf.symsN d lim T m' (Rf.symStep d lim T y).1) := by
        unfold Hid; rw [← hgo.out]
        conv => lhs; unfold Rf.symsN
        rw [if_pos hy0]
      have HLR := hide hLr
      clear hLr
      go_wp2_with fail
      refine HOK.out.mono ?_
      rintro e w1 ⟨rfl, rfl⟩
      go_wp2_with fail
      refine HSY.out.mono ?_
      rintro e w2 ⟨hf2, hres⟩
      have hx12 := hf2.at hx1.out (one_ne (show w.heap.size ≠ rb by omega))
      have hx22 := hf2.at hx2.out (one_ne (show w.heap.size + 1 ≠ rb by omega))
      have HX12 := hide hx12
      have HX22 := hide hx22
      have HF2 := hide (hfr.trans (HLR.out.one hf2))
      clear hx12 hx22 hf2 HSY z0 z1 k1
      cases hs : Gz.sym d (Gz.makeCode l1) y.pos with
      | error k =>
        rw [hs] at hres
        obtain ⟨hk0, rfl, q, hL2⟩ := hres
        have HST : Hid (R = { y with st := k }) := by
          unfold Hid; rw [HGO.out]; unfold Rf.symStep; rw [show T.syms = Gz.makeCode l1 by rw [HT.out], hs]
          exact symsN_bad _ _ _ _ _ hk0
        have HOKB := hide (rok_bad hL2 hk0)
        have hk2c := hL2.da.c2
        have k1 := hL2.da.c1
        have e1 := hL2.da.fz 1
        have HL2 := hide hL2
        clear hL2 hs
        by_cases hk2 : k = 2
        · have k2 : w2.cell? ⟨rb, 2, none⟩ = some (.bool true) := by rw [hk2c, hk2]; rfl
          clear hk2c
          go_wp2_with (go_at_call 42; refine HOKB.out.mono ?_; rintro e w' ⟨rfl, hw⟩; obtain rfl := hw.symm)
          have hf3 := one_set rb 1 w2 (.int .i64 (y.pos : Nat))
          have hr3 := HL2.out.da.s1 (y.pos : Nat) y.pos rfl
          have hL3 := HL2.out.of (x' := { y with st := k }) hf3 hr3 rfl rfl rfl rfl rfl rfl rfl rfl HL2.out.sh HL2.out.er (fun e => absurd e hk0)
          refine ⟨⟨0, { y with st := k }, _, HST.out.symm, fun e => absurd e hk0, hL3, hf3.at HX12.out (one_ne (by omega)), hf3.at HX22.out (one_ne (by omega)), HF2.out.trans (HL2.out.one hf3)⟩, ?_⟩
          rw [HLE.out, if_pos hy0, hL3.left, if_neg (by exact hk0)]; omega
        · have k2 : w2.cell? ⟨rb, 2, none⟩ = some (.bool false) := by rw [hk2c]; exact congrArg (fun b => some (Value.bool b)) (by show (k == 2) = false; rw [beq_eq_false_iff_ne]; exact hk2)
          clear hk2c
          go_wp2_with (go_at_call 42; refine HOKB.out.mono ?_; rintro e w' ⟨rfl, hw⟩; obtain rfl := hw.symm)
          refine ⟨⟨0, { y with st := k }, _, HST.out.symm, fun e => absurd e hk0, HL2.out, HX12.out, HX22.out, HF2.out⟩, ?_⟩
          rw [HLE.out, if_pos hy0, HL2.out.left, if_neg (by exact hk0)]; omega
      | ok okk =>
        obtain ⟨sy, q⟩ := okk
        rw [hs] at hres
        obtain ⟨rfl, hsl, hq8, hpq, hL2⟩ := hres
        have HS : Hid (Gz.sym d T.syms y.pos = .ok (sy, q)) := by unfold Hid; rw [show T.syms = Gz.makeCode l1 by rw [HT.out]]; exact hs
        have HOKG := hide (rok_good hL2 hy0)
        have HL2 := hide hL2
        have k2 : w2.cell? ⟨rb, 2, none⟩ = some (.bool false) := by rw [hL2.da.c2]; exact congrArg (fun b => some (Value.bool b)) (HLR.out.sh0 hy0)
        clear hL2 hs
        by_cases h256 : sy = 256
        · have HST : Hid (R = { y with pos := q }) := by
            unfold Hid; rw [HGO.out]; unfold Rf.symStep; rw [HS.out]; simp only [if_pos h256, if_true]
          have e256 : ((sy : Int) == 256) = true := by rw [beq_iff_eq]; omega
          have H256 := hide h256
          clear h256
          go_wp2_with (go_at_call 42; refine HOKG.out.mono ?_; rintro e w' ⟨rfl, hw⟩; obtain rfl := hw.symm)
          try simp only [Exit.inBlock, Exit.then]
          refine bodyPost_ret (results_none rfl _ _ _) rfl ?_
          refine ⟨rfl, ⟨[w.heap.size, w.heap.size + 1], { s' with pos := q }, ?_⟩, ?_⟩
          · rw [HST.out, ← HKK.out]; exact HL2.out
          · have := HF2.out; rw [HKK.out] at this; exact this.less
        · have e256 : ((sy : Int) == 256) = false := by rw [beq_eq_false_iff_ne]; omega
          have H256 := hide h256
          by_cases hlt : sy < 256
          · have HST : Hid (R = Rf.symsN d lim T m' (Rf.put lim { y with pos := q, toks := y.toks ++ [(sy, 0)] } (UInt8.ofNat sy))) := by
              unfold Hid; rw [HGO.out]; unfold Rf.symStep; rw [HS.out]; simp only [if_neg H256.out, if_pos hlt]; rfl
            clear h256
            obtain ⟨ks, hrw, hkk⟩ := HL2.out.rows
            obtain ⟨i0, hi, hz0, hz1, hz2⟩ := info_parts rinfoT
            obtain ⟨at_, capt, htv⟩ := HLR.out.form 3
            have htv : s'.tv = .slice at_ y.toks.length capt := htv
            have k9 : w2.cell? ⟨rb, 9, none⟩ = some (.slice at_ y.toks.length capt) := by rw [HL2.out.da.c9]; exact congrArg some htv
            have hbsz := HL2.out.bsz
            have hlt8 := HL2.out.da.lt
            have HTV := hide htv
            have HRW := hide hrw
            have HKS := hide hkk
            clear htv hrw hkk
            go_wp2_with (first | (go_at_call 42; refine HOKG.out.mono ?_; rintro e w' ⟨rfl, hw⟩; obtain rfl := hw.symm) | (at_builtin; refine wpList_append_lies _ rfl (.tmp 33) (.tmp 36) 53 rfl B 82 i0 (.agg #[.int .i64 0, .int .i64 0]) 2 16 Tryd.underlying53 hi hz0 hz1 hz2 rfl (by decide) (.slice at_ y.toks.length capt) y.toks.length (y.toks.flatMap tokv) rfl ?hown ⟨_, 0, none⟩ 1 1 [iv sy, iv 0] rfl rfl ?hnews ?h1 (by decide) ?h63 ?hb ?hbase _ rfl ?hK))
            case hown => exact ownsRow_fr (S := No) (HTV.out ▸ HRW.out.row 3) ((Fr.refl _ _).alloc _) (fun _ _ => no_no _)
            case hnews => intro j u hj; match j, hj with | 0, hj => simp at hj; subst hj; exact cell_of (alloc_at _ _) 0 | 1, hj => simp at hj; subst hj; exact cell_of (alloc_at _ _) 1
            case h1 => intro u hu; simp at hu; rcases hu with rfl | rfl <;> rfl
            case h63 => unfold maxLen; omega
            case hb => omega
            case hbase => simp; omega
            case hK =>
              intro g cap w9 hown hgrow hat hlt9
              have hgrow' : World.grownBy _ w9 (({ s' with pos := q } : DS).row 3).ownBlock := (show (({ s' with pos := q } : DS).row 3) = _ from HTV.out) ▸ hgrow
              have hfo : Fr (fun k => some k = (({ s' with pos := q } : DS).row 3).ownBlock) w2 w9 := ((Fr.refl _ _).alloc _).trans ⟨hgrow'.os, hgrow'.tape, hgrow'.output, hgrow'.size, fun k hk hs => hgrow'.block k hk hs⟩
              have hr9 : Da w9 rb { s' with pos := q } := HL2.out.da.fr hfo (fun e => (HRW.out.far 3 rb e.symm).1 rfl)
              have k9 := hr9.c9
              have e9 := hr9.fz 9
              have HR9 := hide hr9
              have HO9 := hide hown
              have HG := hide hgrow'
              have HA := hide hat
              clear hown hgrow hgrow' hat hfo hr9
              have hg9 := HL2.out.grown (x' := { y with pos := q, toks := y.toks ++ [(sy, 0)] }) (s' := { s' with pos := q, tv := .slice (some ⟨g, 0, none⟩) (y.toks.length + 1) cap }) 3 g cap (y.toks.length + 1) _ w9 ((Fr.refl _ _).alloc _) HG.out
                (by rcases HA.out with h | h
                    · exact Or.inl (by rw [show (({ s' with pos := q } : DS).row 3) = s'.tv from rfl, HTV.out]; exact h)
                    · exact Or.inr (by rw [h]; simp)) ks ks HRW.out (HL2.out.keys 3 _ w9 ((Fr.refl _ _).alloc _) HG.out ks HRW.out HKS.out) rfl
                (by have := HO9.out
                    show w9.ownsRow B 82 2 (.slice (some ⟨g, 0, none⟩) (y.toks.length + 1) cap) (y.toks ++ [(sy, 0)]).length ((y.toks ++ [(sy, 0)]).flatMap tokv)
                    simpa [tokv] using this)
                (fun i hi => by match i, hi with | 1, _ => rfl | 2, _ => rfl | 0, _ => rfl | 3, h => exact absurd rfl h)
                (fun i hi => by match i, hi with | 1, _ => rfl | 2, _ => rfl | 0, _ => rfl | 3, h => exact absurd rfl h)
                (fun i hi => by match i, hi with | 1, _ => rfl | 2, _ => rfl | 0, _ => rfl | 3, h => exact absurd rfl h)
                (HR9.out.s9 _) rfl rfl rfl HL2.out.sh HL2.out.er (fun _ => ⟨rfl, hq8, by simp; omega, by show y.kinds.length ≤ q; omega, by show y.keys.length ≤ q; omega⟩) HL2.out.len
              obtain ⟨hg91, hg92⟩ := hg9
              have hput := rput_any B rb KK d lim _ _ _ (UInt8.ofNat sy) hg91 hy0
              have HPU := hide hput
              have HF9 := hide (HF2.out.trans hg92)
              have hx19 := hg92.at HX12.out (fun e => e.2 hk1)
              have hx29 := hg92.at HX22.out (fun e => e.2 hk2)
              have HX19 := hide hx19
              have HX29 := hide hx29
              have hz := ofNat_toNat sy (by omega)
              have HZ := hide hz
              clear hput hg91 hg92 hx19 hx29 hz
              go_wp2_with fail
              refine Calls.mono (by have := HPU.out; rw [← HZ.out] at this; exact this) ?_
              rintro e w10 ⟨rfl, ⟨s10, hL10⟩, hf10⟩
              have k2' : w10.cell? ⟨rb, 2, none⟩ = some (.bool false) := by
                rw [hL10.da.c2, hL10.sh]
                unfold Rf.put
                split
                · rfl
                · show some (Value.bool (y.st == 2)) = _; rw [hy0]; rfl
              have HL10 := hide hL10
              have HF10 := hide hf10
              clear hL10 hf10
              go_wp2_with fail
              refine ⟨⟨m', _, s10, HST.out.symm, fun e => ?_, HL10.out, HF10.out.at HX19.out (fun e => e.2 hk1), HF10.out.at HX29.out (fun e => e.2 hk2), HF9.out.trans HF10.out⟩, ?_⟩
              · rw [put_pos]; show 8 * d.length + 1 - q ≤ m'; omega
              · have hh1 : 8 * d.length + 1 - q < 8 * d.length + 1 - y.pos := by omega
                have hh2 : 0 < 8 * d.length + 1 - y.pos := by omega
                rw [HLE.out, if_pos hy0, HL10.out.left, put_pos]
                split
                · exact hh1
                · exact hh2
          · have HST : Hid (R = Rf.symsN d lim T m' (Rf.copied d lim (Gz.makeCode l2) sy { y with pos := q })) := by
              unfold Hid; rw [HGO.out]; unfold Rf.symStep; rw [HS.out]; simp only [if_neg H256.out, if_neg hlt]; rw [show T.dists = Gz.makeCode l2 by rw [HT.out]]; rfl
            have z0 := cell_of HX22.out 0
            have z1 := cell_of HX22.out 1
            have HCO := hide (rcopied_any B rb KK d lim sy { y with pos := q } w2 _ _ l2 HL2.out hy0 (HC2.out.fr HF2.out) (by omega) (by omega) (by show y.toks.length < q; omega))
            have hcp := copied_pos d lim (Gz.makeCode l2) sy { y with pos := q } (by exact hq8)
            have HCP := hide hcp
            clear h256 hcp
            have hi256 : (256 : Int) ≤ sy := by omega
            go_wp2_with (first | (go_at_call 42; refine HOKG.out.mono ?_; rintro e w' ⟨rfl, hw⟩; obtain rfl := hw.symm) | fail)
            refine HCO.out.mono ?_
            rintro e w10 ⟨rfl, ⟨s10, hL10⟩, hf10⟩
            have HX19 := hide (hf10.at HX12.out (fun e => e.2 hk1))
            have HX29 := hide (hf10.at HX22.out (fun e => e.2 hk2))
            have HF10 := hide (HF2.out.trans hf10)
            have HL10 := hide hL10
            have k2c := hL10.da.c2
            have k1' := hL10.da.c1
            have e1' := hL10.da.fz 1
            have hsh10 := hL10.sh
            clear hL10 hf10 z0 z1 k2
            generalize hX : Rf.copied d lim (Gz.makeCode l2) sy { y with pos := q } = X at *
            by_cases hst2 : X.st = 2
            · have k2 : w10.cell? ⟨rb, 2, none⟩ = some (.bool true) := by rw [k2c, hsh10, hst2]; rfl
              clear k2c hsh10
              go_wp2_with fail
              have hf11 := one_set rb 1 w10 (.int .i64 (y.pos : Nat))
              have hr11 := HL10.out.da.s1 (y.pos : Nat) y.pos rfl
              have hL11 := HL10.out.of (x' := X) hf11 hr11 rfl rfl rfl rfl rfl rfl rfl rfl HL10.out.sh HL10.out.er (fun e => by omega)
              refine ⟨⟨m', X, _, HST.out.symm, fun e => by omega, hL11, hf11.at HX19.out (one_ne (by omega)), hf11.at HX29.out (one_ne (by omega)), HF10.out.trans (HL10.out.one hf11)⟩, ?_⟩
              rw [HLE.out, if_pos hy0, hL11.left, if_neg (by omega)]; omega
            · have k2 : w10.cell? ⟨rb, 2, none⟩ = some (.bool false) := by rw [k2c, hsh10, show (X.st == 2) = false by rw [beq_eq_false_iff_ne]; exact hst2]
              clear k2c hsh10
              go_wp2_with fail
              have hcp : q ≤ X.pos := HCP.out
              refine ⟨⟨m', X, s10, HST.out.symm, fun e => ?_, HL10.out, HX19.out, HX29.out, HF10.out⟩, ?_⟩
              · omega
              · rw [HLE.out, if_pos hy0, HL10.out.left]
                split <;> omega
    · have HOK := hide (rok_bad hLr hy0)
      have HRY : Hid (R = y) := by unfold Hid; rw [← hgo.out]; exact symsN_bad _ _ _ _ _ hy0
      go_wp2_with (go_at_call 42; refine HOK.out.mono ?_; rintro e w' ⟨rfl, hw⟩; obtain rfl := hw.symm)
      go_end0
      refine ⟨rfl, ⟨[w.heap.size, w.heap.size + 1], s', ?_⟩, ?_⟩
      · rw [HRY.out, ← HKK.out]; exact hLr
      · rw [HKK.out] at hfr; exact hfr.less
end Go.Proofs.YtjjjlilflbddoaaDoor
