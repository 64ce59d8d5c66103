import Derived.Test.YtjjjlilflbddoaaDoorGPkY
import Derived.Test.YtjjjlilflbddoaaDoorPkQ
import Derived.Test.YtjjjlilflbddoaaDoorRCopy
import Derived.Test.YtjjjlilflbddoaaDoorGRSym
/-
  The document's own parts of a text: how far two places go alike.
-/
namespace Go.Proofs.YtjjjlilflbddoaaDoor
open Go.RowKit

set_option maxRecDepth 100000 in
set_option maxHeartbeats 1600000 in
theorem ralike_any (t : ByteArray) (q p : Nat) (w : World) (hq : q ≤ p) (hp : p ≤ t.data.toList.length) (ht : t.size ≤ 100000) :
    Calls Tryd.prog 44 #[.string t, .int .i64 q, .int .i64 p] w fun e w' => e = .returned (.int .i64 (Pk.alike t.data.toList q p : Nat)) ∧ Fr No w w' := by
  have htl : t.data.toList.length = t.size := by simp
  obtain ⟨m, hm⟩ : ∃ m, m = Pk.most t.data.toList p := ⟨_, rfl⟩
  have hmb : p + m ≤ t.size := by rw [hm]; unfold Pk.most; omega
  have hm258 : m ≤ 258 := by rw [hm]; unfold Pk.most; omega
  have hme : m = 258 ∨ p + m = t.size := by rw [hm]; unfold Pk.most; omega
  have HIX := hide (wbyte_at t)
  have HM := hide hm
  have HME := hide hme
  obtain ⟨d, hd⟩ : ∃ d, d = t.data.toList := ⟨_, rfl⟩
  rw [← hd] at HIX HM htl ⊢
  clear hm hd hp hme
  go_enter Tryd.func44, Tryd.ntmps44
  go_wp2
  go_loopw [7] (fun iv wr => ∃ k : Nat, k ≤ m ∧ iv = .int .i64 k ∧ Hid (Pk.runLen d q p k = k) ∧ Hid (Fr No w wr)) (fun iv _ => m - (intOf iv).toNat)
  case atStart => exact ⟨0, Nat.zero_le _, rfl, rfl, Fr.refl _ _⟩
  case round =>
    obtain ⟨k, hk, rfl, HR, HF⟩ := hrel
    have w2 : IntKind.i64.wrap ((p : Int) + (k : Int)) = (p : Int) + k := wraps_i64 _ (by omega) (by omega)
    by_cases hlt : k < m
    · have i1 : ∀ W : World, (Instr.index 9 (.string t) (.int .i64 ((q : Int) + (k : Int)))).run Tryd.prog W = .ok (.int .u8 (d.getD (q + k) 0).toNat) W := fun W => by
        have := HIX.out (q + k) (by omega) W
        rw [show (((q + k : Nat) : Nat) : Int) = (q : Int) + k by push_cast; rfl] at this
        exact this
      have i2 : ∀ W : World, (Instr.index 9 (.string t) (.int .i64 ((p : Int) + (k : Int)))).run Tryd.prog W = .ok (.int .u8 (d.getD (p + k) 0).toNat) W := fun W => by
        have := HIX.out (p + k) (by omega) W
        rw [show (((p + k : Nat) : Nat) : Int) = (p : Int) + k by push_cast; rfl] at this
        exact this
      have HGO : Hid (d.getD (q + k) 0 = d.getD (p + k) 0 → Pk.runLen d q p (k + 1) = k + 1) := fun e => Pk.run_go HR.out e
      have HST : Hid (d.getD (q + k) 0 ≠ d.getD (p + k) 0 → Pk.alike d q p = k) := fun e => by unfold Pk.alike; rw [← HM.out]; exact Pk.run_stop HR.out e m hk
      generalize d.getD (q + k) 0 = x at *
      generalize d.getD (p + k) 0 = y at *
      have w1 : IntKind.i64.wrap ((q : Int) + (k : Int)) = (q : Int) + k := wraps_i64 _ (by omega) (by omega)
      have g1 : (k : Int) < 258 := by omega
      have g2 : (p : Int) + (k : Int) < (t.size : Int) := by omega
      by_cases hxy : x = y
      · have HG := hide (HGO.out hxy)
        have hqb : ((x.toNat : Int) == (y.toNat : Int)) = true := by rw [hxy]; simp
        clear HGO HST hxy
        go_upto_region 2 with fail
        go_quiet (fail)
        go_wp2
        refine ⟨⟨k + 1, by omega, by go_num, HG.out, HF.out.drewN _⟩, by simp [intOf]; omega⟩
      · have HS := hide (HST.out hxy)
        have hqb : ((x.toNat : Int) == (y.toNat : Int)) = false := by
          simp only [beq_eq_false_iff_ne, ne_eq]
          intro e
          exact hxy (UInt8.toNat_inj.1 (by omega))
        clear HGO HST hxy
        go_upto_region 2 with fail
        go_quiet (fail)
        go_wp2
        go_ret
        exact ⟨by rw [HS.out]; rfl, HF.out.drewN _⟩
    · have e : k = m := by omega
      subst e
      have HS : Hid (Pk.alike d q p = k) := by unfold Hid Pk.alike; rw [← HM.out]; exact HR.out
      by_cases h8 : k = 258
      · have g1 : ¬ (k : Int) < 258 := by omega
        have HK8 := hide h8
        clear h8
        go_upto_region 2 with fail
        go_quiet (fail)
        go_wp2
        go_ret
        exact ⟨by rw [HS.out]; rfl, HF.out.drewN _⟩
      · have g1 : (k : Int) < 258 := by omega
        have g2 : ¬ (p : Int) + (k : Int) < (t.size : Int) := by have := HME.out; omega
        clear h8
        go_upto_region 2 with fail
        go_quiet (fail)
        go_wp2
        go_ret
        exact ⟨by rw [HS.out]; rfl, HF.out.drewN _⟩
end Go.Proofs.YtjjjlilflbddoaaDoor
/-
  The document's own parts of a text.
-/
namespace Go.Proofs.YtjjjlilflbddoaaDoor
open Go.RowKit
theorem trow_form {w : World} {B n : Nat} {v : Value} {xs : List Value} (h : w.ownsRow B 82 2 v n xs) : ∃ ao cap, v = .slice ao n cap := by
  rcases h.2 with ⟨h, h0⟩ | ⟨g, cap, cur, h, _⟩
  · exact ⟨none, 0, by rw [h, h0]⟩
  · exact ⟨_, _, h⟩
/-- What Tokens answers. -/
def TokP (d : List UInt8) (w : World) (e : Ending) (w' : World) : Prop := ∃ tv, e = .returned tv ∧ w'.ownsRow w.heap.size 82 2 tv (Pk.toks d).length ((Pk.toks d).flatMap tokv) ∧ Fr No w w'

set_option maxRecDepth 100000 in
set_option maxHeartbeats 6400000 in
theorem rtokens_any (t : ByteArray) (w : World) (ht : t.size ≤ 1500) : Calls Tryd.prog 25 #[.string t] w (TokP t.data.toList w) := by
  have htl : t.data.toList.length = t.size := by simp
  obtain ⟨i0, hi, hz0, hz1, hz2⟩ := info_parts rinfoT
  have HL := hide (fun q p (hq : q ≤ p) (hp : p ≤ t.data.toList.length) (w : World) => ralike_any t q p w hq hp (by omega))
  have HIX := hide (wbyte_at t)
  obtain ⟨d, hd⟩ : ∃ d, d = t.data.toList := ⟨_, rfl⟩
  rw [← hd] at HL HIX htl ⊢
  clear hd
  go_enter Tryd.func25, Tryd.ntmps25
  go_wp2
  go_loopw [3, 4] (fun pv iv wr => ∃ (p : Nat) (ts : List (Nat × Nat)), p ≤ t.size ∧ iv = .int .i64 p ∧ Hid (ts ++ Pk.toksFrom d p = Pk.toks d) ∧ Hid (ts.length ≤ p) ∧ Hid (wr.ownsRow w.heap.size 82 2 pv ts.length (ts.flatMap tokv)) ∧ Hid (Fr No w wr)) (fun _ iv _ => t.size - (intOf iv).toNat)
  case atStart => exact ⟨0, [], Nat.zero_le _, rfl, rfl, Nat.le_refl _, ⟨rfl, Or.inl ⟨rfl, rfl⟩⟩, Fr.refl _ _⟩
  case round =>
    obtain ⟨p, ts, hp, rfl, HT, HLE, HROW, HF⟩ := hrel
    obtain ⟨ao, cp, rfl⟩ := trow_form HROW.out
    have hsz := HF.out.size
    have hle := HLE.out
    obtain ⟨wo, hwo⟩ : ∃ wo, wo = wr := ⟨_, rfl⟩
    subst hwo
    by_cases hlt : p < t.size
    · have hadv := Pk.adv_le d p (by omega)
      have hadp := Pk.adv_pos d p
      have HFR := hide (Pk.toksFrom_at (d := d) (p := p) (by omega))
      have hi1 := HIX.out p (by omega)
      have HTK : Hid (Pk.tok d p = if (Pk.best d p).1 < 3 then ((d.getD p 0).toNat, 0) else Pk.best d p) := rfl
      have HAD : Hid (Pk.adv d p = if (Pk.best d p).1 < 3 then 1 else (Pk.best d p).1) := rfl
      obtain ⟨c, hc⟩ : ∃ c, c = (d.getD p 0).toNat := ⟨_, rfl⟩
      rw [← hc] at HTK hi1
      have hc256 : c < 256 := by rw [hc]; exact (d.getD p 0).toNat_lt
      obtain ⟨ad, had⟩ : ∃ ad, ad = Pk.adv d p := ⟨_, rfl⟩
      obtain ⟨tk, htk⟩ : ∃ tk, tk = Pk.tok d p := ⟨_, rfl⟩
      rw [← had] at HAD HFR hadv hadp
      rw [← htk] at HTK HFR
      have wp1 : IntKind.i64.wrap ((p : Int) - 1) = (p : Int) - 1 := by rw [IntKind.wrap_i64]; omega
      have HI1 := hide hi1
      clear hc had htk hi1
      go_wp2_with fail
      go_loopw [5, 6, 7] (fun bv xv qv wi => ∃ k l x : Nat, k ≤ p ∧ qv = .int .i64 ((p : Int) - 1 - (k : Int)) ∧ bv = .int .i64 l ∧ xv = .int .i64 x ∧ Hid (Pk.bestN d p k = (l, x)) ∧ l ≤ 258 ∧ x ≤ k ∧ Hid (Fr No wo wi)) (fun _ _ qv _ => (intOf qv + 1).toNat)
      case atStart => exact ⟨0, 0, 0, Nat.zero_le _, by simp, rfl, rfl, rfl, by omega, Nat.le_refl _, Fr.refl _ _⟩
      case round =>
        obtain ⟨k, l, x, hk, rfl, rfl, rfl, HB, hl, hx, HFI⟩ := hrel
        by_cases hlk : k < p
        · obtain ⟨q, hq⟩ : ∃ q, q = p - (k + 1) := ⟨_, rfl⟩
          have hqi : (p : Int) - 1 - (k : Int) = (q : Int) := by omega
          have HC := hide (HL.out q p (by omega) (by omega) wr)
          have HST := hide (Pk.best_step d p k)
          rw [← hq, HB.out] at HST
          have hal := Pk.alike_le d q p
          obtain ⟨n, hn⟩ : ∃ n, n = Pk.alike d q p := ⟨_, rfl⟩
          rw [← hn] at HC HST hal
          have hn258 : n ≤ 258 := hal.1
          have hq0 : (q : Int) ≥ 0 := by omega
          have hdist : (p : Int) - (q : Int) = ((k + 1 : Nat) : Int) := by omega
          have wq1 : IntKind.i64.wrap ((q : Int) - 1) = (q : Int) - 1 := by rw [IntKind.wrap_i64]; omega
          have HQ := hide hq
          rw [hqi]
          clear hn hq hqi hal
          go_wp2_with fail
          refine HC.out.mono ?_
          rintro e w1 ⟨rfl, hf1⟩
          have HF1 := hide (HFI.out.trans hf1)
          clear hf1 HC
          by_cases hgt : l < n
          · have HE : Hid (Pk.bestN d p (k + 1) = (n, k + 1)) := by unfold Hid; rw [HST.out, if_pos hgt]
            have hgi : (l : Int) < (n : Int) := by omega
            clear HST
            go_wp2_with fail
            refine ⟨⟨k + 1, n, k + 1, by omega, ?_, rfl, by go_num, HE.out, hn258, Nat.le_refl _, HF1.out⟩, ?_⟩
            · have := HQ.out
              first | (go_num; omega) | (congr 1; omega)
            · simp [intOf]
          · have HE : Hid (Pk.bestN d p (k + 1) = (l, x)) := by unfold Hid; rw [HST.out, if_neg hgt]
            have hgi : ¬ (l : Int) < (n : Int) := by omega
            clear HST
            go_wp2_with fail
            refine ⟨⟨k + 1, l, x, by omega, ?_, rfl, rfl, HE.out, hl, by omega, HF1.out⟩, ?_⟩
            · have := HQ.out
              first | (go_num; omega) | (congr 1; omega)
            · simp [intOf]
        · have e : k = p := by omega
          subst e
          have hbk : Pk.best d k = (l, x) := HB.out
          rw [hbk] at HTK HAD
          have hneg : ¬ (k : Int) - 1 - (k : Int) ≥ 0 := by omega
          have HF1 := hide (HF.out.trans HFI.out)
          have HROW1 : Hid (wr.ownsRow w.heap.size 82 2 (.slice ao ts.length cp) ts.length (ts.flatMap tokv)) := ownsRow_fr HROW.out HFI.out (fun _ _ => no_no _)
          have hsz1 := HF1.out.size
          have hi1 := HI1.out
          clear hbk
          by_cases hl3 : l < 3
          · have htk : tk = (c, 0) := by rw [HTK.out, if_pos hl3]
            have had : ad = 1 := by rw [HAD.out, if_pos hl3]
            have HTK2 := hide htk
            have HAD2 := hide had
            have hl3i : ¬ (l : Int) ≥ 3 := by omega
            clear htk had HTK HAD
            go_wp2_with (at_builtin; refine wpList_append_lies _ rfl (.tmp 41) (.tmp 47) 53 rfl w.heap.size 82 i0 (.agg #[.int .i64 0, .int .i64 0]) 2 16 Tryd.underlying53 hi hz0 hz1 hz2 rfl (by decide) (.slice ao ts.length cp) ts.length (ts.flatMap tokv) rfl ?hown ⟨_, 0, none⟩ 1 1 [iv c, iv 0] rfl rfl ?hnews ?h1 (by decide) ?h63 ?hb ?hbase _ rfl ?hK)
            case hown => exact ownsRow_fr (S := No) HROW1.out ((Fr.refl _ _).alloc _) (fun _ _ => no_no _)
            case hnews =>
              intro j u hj
              match j, hj with
              | 0, hj => simp at hj; subst hj; first | rfl | exact cell_of (alloc_at _ _) 0
              | 1, hj => simp at hj; subst hj; first | rfl | exact cell_of (alloc_at _ _) 1
            case h1 => first | exact ⟨rfl, rfl⟩ | (intro u hu; simp at hu; rcases hu with rfl | rfl <;> rfl)
            case h63 => unfold maxLen; omega
            case hb => omega
            case hbase => first | omega | (simp; omega)
            case hK =>
              intro g cap5 w5 hown5 hgrow5 hat5 hlt5
              have hf5 : Fr No w w5 := (HF1.out.alloc _).grown hgrow5 (fun k hk2 hk3 => by have := wrow_lt HROW1.out hk2; omega)
              have HO5 := hide hown5
              have HF5 := hide hf5
              clear hown5 hgrow5 hat5 hf5 HROW1
              go_wp2_with fail
              refine ⟨⟨k + ad, ts ++ [tk], by omega, by rw [HAD2.out]; go_num, ?_, ?_, ?_, HF5.out⟩, by rw [← htl]; simp [intOf]; omega⟩
              · unfold Hid; rw [← HT.out, HFR.out, List.append_assoc]; rfl
              · unfold Hid; rw [List.length_append, List.length_singleton]; omega
              · unfold Hid
                have := HO5.out
                rw [List.flatMap_append, HTK2.out, List.length_append]
                simpa [tokv] using this
          · have htk : tk = (l, x) := by rw [HTK.out, if_neg hl3]
            have had : ad = l := by rw [HAD.out, if_neg hl3]
            have HTK2 := hide htk
            have HAD2 := hide had
            have hl3i : (l : Int) ≥ 3 := by omega
            clear htk had HTK HAD
            go_wp2_with (at_builtin; refine wpList_append_lies _ rfl (.tmp 32) (.tmp 36) 53 rfl w.heap.size 82 i0 (.agg #[.int .i64 0, .int .i64 0]) 2 16 Tryd.underlying53 hi hz0 hz1 hz2 rfl (by decide) (.slice ao ts.length cp) ts.length (ts.flatMap tokv) rfl ?hown ⟨_, 0, none⟩ 1 1 [iv l, iv x] rfl rfl ?hnews ?h1 (by decide) ?h63 ?hb ?hbase _ rfl ?hK)
            case hown => exact ownsRow_fr (S := No) HROW1.out ((Fr.refl _ _).alloc _) (fun _ _ => no_no _)
            case hnews =>
              intro j u hj
              match j, hj with
              | 0, hj => simp at hj; subst hj; first | rfl | exact cell_of (alloc_at _ _) 0
              | 1, hj => simp at hj; subst hj; first | rfl | exact cell_of (alloc_at _ _) 1
            case h1 => first | exact ⟨rfl, rfl⟩ | (intro u hu; simp at hu; rcases hu with rfl | rfl <;> rfl)
            case h63 => unfold maxLen; omega
            case hb => omega
            case hbase => first | omega | (simp; omega)
            case hK =>
              intro g cap5 w5 hown5 hgrow5 hat5 hlt5
              have hf5 : Fr No w w5 := (HF1.out.alloc _).grown hgrow5 (fun k hk2 hk3 => by have := wrow_lt HROW1.out hk2; omega)
              have HO5 := hide hown5
              have HF5 := hide hf5
              clear hown5 hgrow5 hat5 hf5 HROW1
              go_wp2_with fail
              refine ⟨⟨k + ad, ts ++ [tk], by omega, by rw [HAD2.out]; go_num, ?_, ?_, ?_, HF5.out⟩, by rw [← htl]; simp [intOf]; omega⟩
              · unfold Hid; rw [← HT.out, HFR.out, List.append_assoc]; rfl
              · unfold Hid; rw [List.length_append, List.length_singleton]; omega
              · unfold Hid
                have := HO5.out
                rw [List.flatMap_append, HTK2.out, List.length_append]
                simpa [tokv] using this
    · have e : p = t.size := by omega
      subst e
      go_wp2
      go_ret
      refine ⟨_, rfl, ?_, HF.out⟩
      have hts : ts = Pk.toks d := by
        have := HT.out
        rw [Pk.toksFrom_end (by omega), List.append_nil] at this
        exact this
      rw [← hts]
      exact HROW.out
end Go.Proofs.YtjjjlilflbddoaaDoor
/-
  The document's own symbols of lengths and distances.
-/
namespace Go.Proofs.YtjjjlilflbddoaaDoor
open Go.RowKit
theorem base_field (a b : Int) (W : World) : (Instr.field 121 (.agg #[.int .i64 a, .int .i64 b]) 0).run Tryd.prog W = .ok (.int .i64 a) W := by
  simp [Instr.field, run_underlying Tryd.underlying121, asAgg, Go.part, isAgg, go_sem, run_underlying Tryd.underlying3]

set_option maxRecDepth 100000 in
set_option maxHeartbeats 1600000 in
theorem rfarSym_any (n : Nat) (w : World) :
    Calls Tryd.prog 46 #[.int .i64 n] w fun e w' => e = .returned (.int .i64 (Pk.farSym n : Nat)) ∧ Fr No w w' := by
  have HL := hide rfar_any
  go_enter Tryd.func46, Tryd.ntmps46
  go_wp2
  go_loopw [3] (fun iv wr => ∃ k : Nat, k ≤ 29 ∧ iv = .int .i64 k ∧ Hid (Pk.downTo Gz.distFrom n 29 = Pk.downTo Gz.distFrom n k) ∧ Hid (Fr No w wr)) (fun iv _ => (intOf iv).toNat)
  case atStart => exact ⟨29, Nat.le_refl _, rfl, rfl, Fr.refl _ _⟩
  case round =>
    obtain ⟨k, hk, rfl, HK, HF⟩ := hrel
    by_cases hk0 : k = 0
    · subst hk0
      go_wp2_with fail
      go_ret
      refine ⟨ret_int ?_, HF.out⟩
      unfold Pk.farSym
      rw [HK.out]
      rfl
    · have HD : Hid (∀ j, k = j + 1 → n < Gz.distFrom.getD k 0 → Pk.downTo Gz.distFrom n k = Pk.downTo Gz.distFrom n j) := by
        intro j e h
        subst e
        rw [Pk.downTo, if_pos h]
      have HS : Hid (¬ n < Gz.distFrom.getD k 0 → Pk.downTo Gz.distFrom n k = k) := by
        intro h
        cases k with
        | zero => rfl
        | succ j => rw [Pk.downTo, if_neg h]
      have HC := hide (HL.out k (by omega) wr)
      obtain ⟨x, hx⟩ : ∃ x, x = Gz.distFrom.getD k 0 := ⟨_, rfl⟩
      rw [← hx] at HC HD HS
      obtain ⟨y, hy⟩ : ∃ y, y = Gz.distBits k := ⟨_, rfl⟩
      rw [← hy] at HC
      have hfd := base_field (x : Int) (y : Int)
      clear hy
      have hki : (0 : Int) < (k : Int) := by omega
      clear hx
      go_wp2_with fail
      refine HC.out.mono ?_
      rintro e w1 ⟨rfl, hf1⟩
      have HF1 := hide (HF.out.trans hf1)
      clear hf1 HC
      by_cases hlt : n < x
      · obtain ⟨j, rfl⟩ : ∃ j, k = j + 1 := ⟨k - 1, by omega⟩
        have hli : (n : Int) < (x : Int) := by omega
        go_wp2_with fail
        refine ⟨⟨j, by omega, by go_num, by unfold Hid; rw [HK.out]; exact HD.out j rfl hlt, HF1.out⟩, by simp [intOf]⟩
      · have hli : ¬ (n : Int) < (x : Int) := by omega
        go_wp2_with fail
        go_ret
        exact ⟨ret_int (by unfold Pk.farSym; rw [HK.out, HS.out hlt]), HF1.out⟩

set_option maxRecDepth 100000 in
set_option maxHeartbeats 1600000 in
theorem rlenSym_any (n : Nat) (w : World) :
    Calls Tryd.prog 45 #[.int .i64 n] w fun e w' => e = .returned (.int .i64 (Pk.lenSym n : Nat)) ∧ Fr No w w' := by
  have HL := hide rlength_any
  have h28 : Gz.lenFrom.getD 28 0 = 258 := rfl
  have H28 := hide h28
  clear h28
  go_enter Tryd.func45, Tryd.ntmps45
  go_wp2
  go_loopw [3] (fun iv wr => ∃ k : Nat, k ≤ 28 ∧ iv = .int .i64 ((k : Int) + 257) ∧ Hid (Pk.downTo Gz.lenFrom n 28 = Pk.downTo Gz.lenFrom n k) ∧ Hid (Fr No w wr)) (fun iv _ => (intOf iv - 257).toNat)
  case atStart => exact ⟨28, Nat.le_refl _, rfl, rfl, Fr.refl _ _⟩
  case round =>
    obtain ⟨k, hk, rfl, HK, HF⟩ := hrel
    by_cases hk0 : k = 0
    · subst hk0
      go_wp2_with fail
      go_ret
      refine ⟨ret_int ?_, HF.out⟩
      unfold Pk.lenSym
      rw [HK.out]
      rfl
    · have HD : Hid (∀ j, k = j + 1 → n < Gz.lenFrom.getD k 0 → Pk.downTo Gz.lenFrom n k = Pk.downTo Gz.lenFrom n j) := by
        intro j e h
        subst e
        rw [Pk.downTo, if_pos h]
      have HS : Hid (¬ n < Gz.lenFrom.getD k 0 → Pk.downTo Gz.lenFrom n k = k) := by
        intro h
        cases k with
        | zero => rfl
        | succ j => rw [Pk.downTo, if_neg h]
      have HC := hide (HL.out k (by omega) wr)
      have hx8 : k = 28 → Gz.lenFrom.getD k 0 = 258 := fun e => by rw [e]; exact H28.out
      obtain ⟨x, hx⟩ : ∃ x, x = Gz.lenFrom.getD k 0 := ⟨_, rfl⟩
      rw [← hx] at HC HD HS hx8
      obtain ⟨y, hy⟩ : ∃ y, y = Gz.lenBits (k + 257) := ⟨_, rfl⟩
      rw [← hy] at HC
      have hfd := base_field (x : Int) (y : Int)
      have HX8 := hide hx8
      clear hx hy hx8
      obtain ⟨s, hs⟩ : ∃ s : Nat, s = k + 257 := ⟨_, rfl⟩
      have hsi : (k : Int) + 257 = (s : Int) := by omega
      have hs0 : (257 : Int) < (s : Int) := by omega
      rw [hsi] at HC ⊢
      have HSS := hide hs
      have hsb : s ≤ 285 := by omega
      clear hs hsi
      go_wp2_with fail
      refine HC.out.mono ?_
      rintro e w1 ⟨rfl, hf1⟩
      have HF1 := hide (HF.out.trans hf1)
      clear hf1 HC
      by_cases hlt : n < x
      · have hli : (n : Int) < (x : Int) := by omega
        go_wp2_with fail
        have hse := HSS.out
        refine ⟨⟨k - 1, by omega, ?_, by unfold Hid; rw [HK.out]; exact HD.out (k - 1) (by omega) hlt, HF1.out⟩, ?_⟩
        · first | (congr 1; omega) | (go_num; omega)
        · simp [intOf]; omega
      · have hli : ¬ (n : Int) < (x : Int) := by omega
        have HRR : Hid (Pk.lenSym n = s) := by unfold Hid Pk.lenSym; rw [HK.out, HS.out hlt, HSS.out]; omega
        by_cases h285 : s = 285
        · have hn8 : ¬ (n : Int) < 258 := by have := HX8.out (by have := HSS.out; omega); omega
          subst h285
          go_wp2_with fail
          go_ret
          exact ⟨ret_int (by rw [HRR.out]; rfl), HF1.out⟩
        · have hsb : ((s : Int) == 285) = false := by simp; omega
          clear h285
          go_wp2_with fail
          go_ret
          exact ⟨ret_int (by rw [HRR.out]), HF1.out⟩
end Go.Proofs.YtjjjlilflbddoaaDoor
