import Derived.Test.YtjjjlilflbddoaaDoorGPkY
namespace Go.Proofs.YtjjjlilflbddoaaDoor
open Go.RowKit

/-- Three cells are set one behind the other. -/
structure Set3 (w : World) (b : Nat) (x y z : Value) : Prop where
  a0 : ∃ v, w.cell? ⟨b, 0, none⟩ = some v
  f0 : w.frozen? ⟨b, 0, none⟩ = false
  a1 : ∃ v, (w.setCell ⟨b, 0, none⟩ x).cell? ⟨b, 1, none⟩ = some v
  f1 : (w.setCell ⟨b, 0, none⟩ x).frozen? ⟨b, 1, none⟩ = false
  a2 : ∃ v, ((w.setCell ⟨b, 0, none⟩ x).setCell ⟨b, 1, none⟩ y).cell? ⟨b, 2, none⟩ = some v
  f2 : ((w.setCell ⟨b, 0, none⟩ x).setCell ⟨b, 1, none⟩ y).frozen? ⟨b, 2, none⟩ = false
theorem set3_of {w : World} {b : Nat} {p q r : Value} {ty : TypeId} (h : w.heap[b]? = some (.cells #[p, q, r] ty (0, 0))) (x y z : Value) : Set3 w b x y z ∧ (((w.setCell ⟨b, 0, none⟩ x).setCell ⟨b, 1, none⟩ y).setCell ⟨b, 2, none⟩ z).heap[b]? = some (.cells #[x, y, z] ty (0, 0)) := by
  have h1 : (w.setCell ⟨b, 0, none⟩ x).heap[b]? = some (.cells #[x, q, r] ty (0, 0)) := by rw [set_of h]; rfl
  have h2 : ((w.setCell ⟨b, 0, none⟩ x).setCell ⟨b, 1, none⟩ y).heap[b]? = some (.cells #[x, y, r] ty (0, 0)) := by rw [set_of h1]; rfl
  refine ⟨⟨⟨p, by rw [cell_of h]; rfl⟩, frozen_of h 0, ⟨q, by rw [cell_of h1]; rfl⟩, frozen_of h1 1, ⟨r, by rw [cell_of h2]; rfl⟩, frozen_of h2 2⟩, ?_⟩
  rw [set_of h2]; rfl
theorem fr_set3 {S : Nat → Prop} {a w : World} {b : Nat} (h : Fr S a w) (hs : b < a.heap.size → S b) (x y z : Value) : Fr S a (((w.setCell ⟨b, 0, none⟩ x).setCell ⟨b, 1, none⟩ y).setCell ⟨b, 2, none⟩ z) := ((h.setCell hs _).setCell hs _).setCell hs _

set_option maxRecDepth 100000 in
set_option maxHeartbeats 1600000 in
theorem longest_any (t : ByteArray) (p : Nat) (w : World) (hp : p < t.data.toList.length) (ht : t.size ≤ 100000) :
    Calls Tryd.prog 83 #[.string t, .int .i64 p] w fun e w' => e = .returned (.agg #[.int .u8 0, .int .i64 ((Pk.best t.data.toList p).1 : Nat), .int .i64 ((Pk.best t.data.toList p).2 : Nat)]) ∧ Fr No w w' := by
  have htl : t.data.toList.length = t.size := by simp
  have HS := hide (fun q (hq : q ≤ p) (w : World) => sameBytes_any t q p w hq (by omega) ht)
  obtain ⟨d, hd⟩ : ∃ d, d = t.data.toList := ⟨_, rfl⟩
  rw [← hd] at HS htl hp ⊢
  clear hd
  go_enter Tryd.func83, Tryd.ntmps83
  go_wp2
  go_loopw [6] (fun iv wr => ∃ k l x : Nat, k ≤ p ∧ iv = .int .i64 ((k + 1 : Nat) : Int) ∧ Hid (Pk.bestN d p k = (l, x)) ∧ l ≤ 258 ∧ x ≤ k ∧ wr.heap[w.heap.size + 1]? = some (.cells #[.int .u8 0, .int .i64 l, .int .i64 x] 142 (0, 0)) ∧ Hid (wr.heap[w.heap.size]? = some (.cells #[.int .u8 0, .int .i64 0, .int .i64 0] 142 (0, 0))) ∧ Hid (Fr No w wr)) (fun iv _ => p + 1 - (intOf iv).toNat)
  case atStart =>
    refine ⟨0, 0, 0, Nat.zero_le _, rfl, rfl, by omega, Nat.le_refl _, ?_, ?_, ((Fr.refl _ _).alloc _).alloc _⟩
    · have := alloc_at (w.alloc (.cells #[.int .u8 0, .int .i64 0, .int .i64 0] 142)) (.cells #[.int .u8 0, .int .i64 0, .int .i64 0] 142)
      rw [World.size_alloc] at this
      exact this
    · exact alloc_old (alloc_at w _)
  case round =>
    obtain ⟨k, l, x, hk, rfl, HB, hl, hx, hlb, HRB, HF⟩ := hrel
    have c1 : wr.cell? ⟨w.heap.size + 1, 1, none⟩ = some (.int .i64 l) := by rw [cell_of hlb]; rfl
    have hsz := HF.out.size
    have HLB := hide hlb
    clear hlb
    obtain ⟨lb, hlbe⟩ : ∃ lb, lb = w.heap.size + 1 := ⟨_, rfl⟩
    obtain ⟨rb, hrbe⟩ : ∃ rb, rb = w.heap.size := ⟨_, rfl⟩
    by_cases hlt : k < p
    · obtain ⟨q, hq⟩ : ∃ q, q = p - (k + 1) := ⟨_, rfl⟩
      have hi : (p : Int) - ((k : Int) + 1) = (q : Int) := by omega
      have HC := hide (HS.out q (by omega) wr)
      have HST := hide (Pk.best_step d p k)
      rw [← hq, HB.out] at HST
      have hal := Pk.alike_le d q p
      obtain ⟨n, hn⟩ : ∃ n, n = Pk.alike d q p := ⟨_, rfl⟩
      rw [← hn] at HC HST hal
      clear hn hq
      go_wp2_with fail
      refine HC.out.mono ?_
      rintro e w1 ⟨rfl, hf1⟩
      have c1' := (hf1.cell (p := ⟨w.heap.size + 1, 1, none⟩) (lt_of HLB.out) (no_no _)).trans c1
      have hb1 : w1.heap[w.heap.size + 1]? = some (.cells #[.int .u8 0, .int .i64 l, .int .i64 x] 142 (0, 0)) := hf1.at HLB.out (no_no _)
      have hr1 : w1.heap[w.heap.size]? = some (.cells #[.int .u8 0, .int .i64 0, .int .i64 0] 142 (0, 0)) := hf1.at HRB.out (no_no _)
      have HF1 := hide (HF.out.trans hf1)
      have HR1 := hide hr1
      have HB1 := hide hb1
      clear hf1 hr1 HC
      by_cases hgt : l < n
      · have HE : Hid (Pk.bestN d p (k + 1) = (n, k + 1)) := by unfold Hid; rw [HST.out, if_pos hgt]
        obtain ⟨hs3, hb3⟩ := set3_of HB1.out (.int .u8 0) (.int .i64 (n : Int)) (.int .i64 ((k + 1 : Nat) : Int))
        obtain ⟨⟨u0, e0⟩, g0, ⟨u1, e1⟩, g1, ⟨u2, e2⟩, g2⟩ := hs3
        have HB3 := hide hb3
        have hr3 : (((w1.setCell ⟨w.heap.size + 1, 0, none⟩ (.int .u8 0)).setCell ⟨w.heap.size + 1, 1, none⟩ (.int .i64 (n : Int))).setCell ⟨w.heap.size + 1, 2, none⟩ (.int .i64 ((k + 1 : Nat) : Int))).heap[w.heap.size]? = some (.cells #[.int .u8 0, .int .i64 0, .int .i64 0] 142 (0, 0)) := by
          rw [set_other 2 _ (by omega), set_other 1 _ (by omega), set_other 0 _ (by omega)]; exact HR1.out
        have HR3 := hide hr3
        have HF3 := hide (fr_set3 (b := w.heap.size + 1) HF1.out (fun h => by omega) (.int .u8 0) (.int .i64 (n : Int)) (.int .i64 ((k + 1 : Nat) : Int)))
        clear HST hb3 hr3
        go_wp2_with fail
        refine ⟨⟨k + 1, n, k + 1, by omega, by go_num, HE.out, hal.1, Nat.le_refl _, HB3.out, HR3.out, HF3.out⟩, by simp [intOf]; omega⟩
      · have HE : Hid (Pk.bestN d p (k + 1) = (l, x)) := by unfold Hid; rw [HST.out, if_neg hgt]
        clear HST
        go_wp2_with fail
        refine ⟨⟨k + 1, l, x, by omega, by go_num, HE.out, hl, by omega, HB1.out, HR1.out, HF1.out⟩, by simp [intOf]; omega⟩
    · have e : k = p := by omega
      subst e
      have d0 : wr.cell? ⟨w.heap.size + 1, 0, none⟩ = some (.int .u8 0) := by rw [cell_of HLB.out]; rfl
      have d2 : wr.cell? ⟨w.heap.size + 1, 2, none⟩ = some (.int .i64 x) := by rw [cell_of HLB.out]; rfl
      obtain ⟨hs3, hb3⟩ := set3_of HRB.out (.int .u8 0) (.int .i64 (l : Int)) (.int .i64 (x : Int))
      obtain ⟨⟨u0, e0⟩, g0, ⟨u1, e1⟩, g1, ⟨u2, e2⟩, g2⟩ := hs3
      have HB3 := hide hb3
      have HF3 := hide (fr_set3 (b := w.heap.size) HF.out (fun h => by omega) (.int .u8 0) (.int .i64 (l : Int)) (.int .i64 (x : Int)))
      clear hb3
      go_wp2
      refine bodyPost_ret (results_cell_row rfl _ _ w.heap.size 142 _ (0, 0) _ rfl HB3.out Tryd.underlying142 rfl (by kernel_rfl)) rfl ?_
      refine ⟨?_, HF3.out⟩
      have : Pk.best d k = (l, x) := HB.out
      rw [this]

theorem alloc2_at (w : World) (o1 o2 : Obj) : ((w.alloc o1).alloc o2).heap[w.heap.size + 1]? = some o2 := by
  have := alloc_at (w.alloc o1) o2
  rw [World.size_alloc] at this
  exact this
/-- A part as it lies in memory. -/
def partv (t : Nat × Nat) : List Value := if t.2 = 0 then [.int .u8 (t.1 : Nat), .int .i64 0, .int .i64 0] else [.int .u8 0, .int .i64 (t.1 : Nat), .int .i64 (t.2 : Nat)]
theorem partv_len (t : Nat × Nat) : (partv t).length = 3 := by unfold partv; split <;> rfl
theorem winfoP : (Tryd.prog.info? 142).map (fun i => (i.zero, i.size, i.bytes)) = some (some (.agg #[.int .u8 0, .int .i64 0, .int .i64 0]), 3, 24) := by kernel_rfl
theorem prow_form {w : World} {B n : Nat} {v : Value} {xs : List Value} (h : w.ownsRow B 142 3 v n xs) : ∃ ao cap, v = .slice ao n cap := by
  rcases h.2 with ⟨h, h0⟩ | ⟨g, cap, cur, h, _⟩
  · exact ⟨none, 0, by rw [h, h0]⟩
  · exact ⟨_, _, h⟩

set_option maxRecDepth 100000 in
set_option maxHeartbeats 3200000 in
/-- The parts of a text. -/
theorem partsOf_any (t : ByteArray) (w : World) (ht : t.size ≤ 1500) :
    Calls Tryd.prog 58 #[.string t] w fun e w' => ∃ pv, e = .returned pv ∧ w'.ownsRow w.heap.size 142 3 pv (Pk.toks t.data.toList).length ((Pk.toks t.data.toList).flatMap partv) ∧ Fr No w w' := by
  have htl : t.data.toList.length = t.size := by simp
  obtain ⟨i0, hi, hz0, hz1, hz2⟩ := info_parts winfoP
  have HL := hide (fun p (hp : p < t.data.toList.length) (w : World) => longest_any t p w hp (by omega))
  have HIX := hide (wbyte_at t)
  obtain ⟨d, hd⟩ : ∃ d, d = t.data.toList := ⟨_, rfl⟩
  rw [← hd] at HL HIX htl ⊢
  clear hd
  go_enter Tryd.func58, Tryd.ntmps58
  go_wp2
  go_loopw [3, 4] (fun pv iv wr => ∃ (p : Nat) (ts : List (Nat × Nat)), p ≤ t.size ∧ iv = .int .i64 p ∧ Hid (ts ++ Pk.toksFrom d p = Pk.toks d) ∧ Hid (ts.length ≤ p) ∧ Hid (wr.ownsRow w.heap.size 142 3 pv ts.length (ts.flatMap partv)) ∧ Hid (Fr No w wr)) (fun _ iv _ => t.size - (intOf iv).toNat)
  case atStart => exact ⟨0, [], Nat.zero_le _, rfl, rfl, Nat.le_refl _, ⟨rfl, Or.inl ⟨rfl, rfl⟩⟩, Fr.refl _ _⟩
  case round =>
    obtain ⟨p, ts, hp, rfl, HT, HLE, HROW, HF⟩ := hrel
    obtain ⟨ao, cp, rfl⟩ := prow_form HROW.out
    have hsz := HF.out.size
    have hle := HLE.out
    by_cases hlt : p < t.size
    · have hadv := Pk.adv_le d p (by omega)
      have hadp := Pk.adv_pos d p
      have HFR := hide (Pk.toksFrom_at (d := d) (p := p) (by omega))
      obtain ⟨hto, hta⟩ := Pk.tok_ok d p
      have hbo := Pk.best_ok d p
      have hi1 := HIX.out p (by omega)
      have HC := hide (HL.out p (by omega) wr)
      have HTK : Hid (Pk.tok d p = if (Pk.best d p).1 < 3 then ((d.getD p 0).toNat, 0) else Pk.best d p) := rfl
      have HAD : Hid (Pk.adv d p = if (Pk.best d p).1 < 3 then 1 else (Pk.best d p).1) := rfl
      obtain ⟨l, x, hlx⟩ : ∃ l x, Pk.best d p = (l, x) := ⟨_, _, rfl⟩
      rw [hlx] at HC HTK HAD hbo
      obtain ⟨c, hc⟩ : ∃ c, c = (d.getD p 0).toNat := ⟨_, rfl⟩
      rw [← hc] at HTK hi1
      have hc256 : c < 256 := by rw [hc]; exact (d.getD p 0).toNat_lt
      obtain ⟨ad, had⟩ : ∃ ad, ad = Pk.adv d p := ⟨_, rfl⟩
      obtain ⟨tk, htk⟩ : ∃ tk, tk = Pk.tok d p := ⟨_, rfl⟩
      rw [← had] at HAD HFR hadv hadp
      rw [← htk] at HTK HFR
      have hl258 : l ≤ 258 := hbo.1
      have hxp : x ≤ p := hbo.2.2.1
      have hx0 : 0 < l → 0 < x := fun h => (hbo.2.2.2 h).1
      clear hlx hc had htk hto hta hbo
      go_wp2_with fail
      refine HC.out.mono ?_
      rintro e w1 ⟨rfl, hf1⟩
      have HF1 := hide (HF.out.trans hf1)
      have HROW1 : Hid (w1.ownsRow w.heap.size 142 3 (.slice ao ts.length cp) ts.length (ts.flatMap partv)) := ownsRow_fr HROW.out hf1 (fun _ _ => no_no _)
      have hsz1 := HF1.out.size
      clear hf1 HC
      by_cases hl3 : l < 3
      · have htk : tk = (c, 0) := by rw [HTK.out, if_pos hl3]
        have had : ad = 1 := by rw [HAD.out, if_pos hl3]
        have HTK2 := hide htk
        have HAD2 := hide had
        clear htk had HTK HAD
        go_wp2_with (at_builtin; refine wpList_append_lies _ rfl (.tmp 20) (.tmp 22) 106 rfl w.heap.size 142 i0 (.agg #[.int .u8 0, .int .i64 0, .int .i64 0]) 3 24 Tryd.underlying106 hi hz0 hz1 hz2 rfl (by decide) (.slice ao ts.length cp) ts.length (ts.flatMap partv) rfl ?hown ⟨w1.heap.size + 1, 0, none⟩ 1 1 [.int .u8 (c : Int), .int .i64 0, .int .i64 0] rfl rfl ?hnews ?h1 (by decide) ?h63 ?hb ?hbase _ rfl ?hK)
        case hown => exact ownsRow_fr (S := No) HROW1.out (((Fr.refl _ _).alloc _).alloc _) (fun _ _ => no_no _)
        case hnews => first | exact (fun j u h => h) | (intro j u hj; match j, hj with | 0, hj => simp at hj; subst hj; exact cell_of (alloc2_at w1 _ _) 0 | 1, hj => simp at hj; subst hj; exact cell_of (alloc2_at w1 _ _) 1 | 2, hj => simp at hj; subst hj; exact cell_of (alloc2_at w1 _ _) 2)
        case h1 => intro u hu; simp at hu; rcases hu with rfl | rfl | rfl <;> rfl
        case h63 => unfold maxLen; omega
        case hb => omega
        case hbase => first | omega | (simp; omega)
        case hK =>
          intro g cap5 w5 hown5 hgrow5 hat5 hlt5
          have hf5 : Fr No w w5 := ((HF1.out.alloc _).alloc _).grown hgrow5 (fun k hk2 hk3 => by have := wrow_lt HROW1.out hk2; omega)
          have hc5 : w5.cell? ⟨w1.heap.size, 1, none⟩ = some (.int .i64 0) := by
            have hne : (Value.slice ao ts.length cp).ownBlock ≠ some w1.heap.size := fun e => by have := (wrow_lt HROW1.out e).2; omega
            have hblk : w5.heap[w1.heap.size]? = _ := (hgrow5.block w1.heap.size (by rw [World.size_alloc, World.size_alloc]; omega) (fun e => hne e.symm)).trans (alloc_old (alloc_at w1 _))
            rw [cell_of hblk]; rfl
          have HO5 := hide hown5
          have HF5 := hide hf5
          clear hown5 hgrow5 hat5 hf5 HROW1
          go_wp2_with fail
          refine ⟨⟨p + ad, ts ++ [tk], by omega, by rw [HAD2.out]; go_num, ?_, ?_, ?_, HF5.out⟩, by rw [← htl]; simp [intOf]; omega⟩
          · unfold Hid; rw [← HT.out, HFR.out, List.append_assoc]; rfl
          · unfold Hid; rw [List.length_append, List.length_singleton]; omega
          · unfold Hid
            have := HO5.out
            rw [List.flatMap_append, HTK2.out, List.length_append]
            simpa [partv] using this
      · have htk : tk = (l, x) := by rw [HTK.out, if_neg hl3]
        have had : ad = l := by rw [HAD.out, if_neg hl3]
        have hx0n : ¬ x = 0 := by have := hx0 (by omega); omega
        have hl1 : (1 : Int) ≤ (l : Int) := by omega
        have HTK2 := hide htk
        have HAD2 := hide had
        clear htk had HTK HAD
        go_wp2_with (at_builtin; refine wpList_append_lies _ rfl (.tmp 20) (.tmp 22) 106 rfl w.heap.size 142 i0 (.agg #[.int .u8 0, .int .i64 0, .int .i64 0]) 3 24 Tryd.underlying106 hi hz0 hz1 hz2 rfl (by decide) (.slice ao ts.length cp) ts.length (ts.flatMap partv) rfl ?hown ⟨w1.heap.size + 1, 0, none⟩ 1 1 [.int .u8 0, .int .i64 (l : Int), .int .i64 (x : Int)] rfl rfl ?hnews ?h1 (by decide) ?h63 ?hb ?hbase _ rfl ?hK)
        case hown => exact ownsRow_fr (S := No) HROW1.out (((Fr.refl _ _).alloc _).alloc _) (fun _ _ => no_no _)
        case hnews => first | exact (fun j u h => h) | (intro j u hj; match j, hj with | 0, hj => simp at hj; subst hj; exact cell_of (alloc2_at w1 _ _) 0 | 1, hj => simp at hj; subst hj; exact cell_of (alloc2_at w1 _ _) 1 | 2, hj => simp at hj; subst hj; exact cell_of (alloc2_at w1 _ _) 2)
        case h1 => intro u hu; simp at hu; rcases hu with rfl | rfl | rfl <;> rfl
        case h63 => unfold maxLen; omega
        case hb => omega
        case hbase => first | omega | (simp; omega)
        case hK =>
          intro g cap5 w5 hown5 hgrow5 hat5 hlt5
          have hf5 : Fr No w w5 := ((HF1.out.alloc _).alloc _).grown hgrow5 (fun k hk2 hk3 => by have := wrow_lt HROW1.out hk2; omega)
          have hc5 : w5.cell? ⟨w1.heap.size, 1, none⟩ = some (.int .i64 (l : Int)) := by
            have hne : (Value.slice ao ts.length cp).ownBlock ≠ some w1.heap.size := fun e => by have := (wrow_lt HROW1.out e).2; omega
            have hblk : w5.heap[w1.heap.size]? = _ := (hgrow5.block w1.heap.size (by rw [World.size_alloc, World.size_alloc]; omega) (fun e => hne e.symm)).trans (alloc_old (alloc_at w1 _))
            rw [cell_of hblk]; rfl
          have HO5 := hide hown5
          have HF5 := hide hf5
          clear hown5 hgrow5 hat5 hf5 HROW1
          go_wp2_with fail
          refine ⟨⟨p + ad, ts ++ [tk], by omega, by rw [HAD2.out]; go_num, ?_, ?_, ?_, HF5.out⟩, by rw [← htl]; simp [intOf]; omega⟩
          · unfold Hid; rw [← HT.out, HFR.out, List.append_assoc]; rfl
          · unfold Hid; rw [List.length_append, List.length_singleton]; omega
          · unfold Hid
            have := HO5.out
            rw [List.flatMap_append, HTK2.out, List.length_append]
            simpa [partv, hx0n] using this
    · have e : p = t.size := by omega
      subst e
      go_wp2
      go_ret
      refine ⟨_, rfl, ?_, HF.out⟩
      have hts : ts = Pk.toks d := by
        have := HT.out
        rw [Pk.toksFrom_end (by omega), List.append_nil] at this
        exact this
      rw [← hts]
      exact HROW.out
end Go.Proofs.YtjjjlilflbddoaaDoor
