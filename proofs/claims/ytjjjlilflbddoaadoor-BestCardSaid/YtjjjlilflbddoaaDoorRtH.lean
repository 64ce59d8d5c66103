import Derived.Test.YtjjjlilflbddoaaDoorGRtG
/-
  The law of Deflate: kinds 1 and 2, the walk.
-/
namespace Go.Proofs.YtjjjlilflbddoaaDoor
open Go.RowKit Pm
theorem bit_zero (c k : Nat) (hc : c < 256) (h : c / 2 ^ k % 2 = 0) : wrap64 ((wrap64 ((c : Int) / 2 ^ k)).tmod 2) = 0 := by
  have e : (c : Int) / 2 ^ k = ((c / 2 ^ k : Nat) : Int) := by push_cast; rfl
  have hq : c / 2 ^ k ≤ c := Nat.div_le_self _ _
  rw [e]
  generalize c / 2 ^ k = q at *
  have e2 : (q : Int).tmod 2 = 0 := by
    have := Int.ofNat_tmod q 2
    rw [h] at this
    exact this.symm
  rw [wrap64_id (q : Int) (by omega) (by omega), e2]
  exact wrap64_id 0 (by omega) (by omega)
theorem ToksAt.fr {w w' : World} {ao : Option Addr} {ts : List (Nat × Nat)} (h : ToksAt w ao ts) (f : Fr No w w') : ToksAt w' ao ts := fun k hk => by
  obtain ⟨g, e, hg, h0, h1⟩ := h k hk
  exact ⟨g, e, Nat.lt_of_lt_of_le hg f.size, (f.cell (p := ⟨g, _, none⟩) hg (no_no _)).trans h0, (f.cell (p := ⟨g, _, none⟩) hg (no_no _)).trans h1⟩

set_option maxRecDepth 100000 in
set_option maxHeartbeats 6400000 in
theorem deflatesLaw_k (t : ByteArray) (k : Nat) (w : World) (hk : k = 1 ∨ k = 2) (ht : t.size ≤ 1500) (hE : PkEnv w) (hO : OrdAt w) (hG : 11 < w.heap.size) :
    Calls Tryd.prog 7 #[.string t, .int .i64 k] w fun e w' => e = .returned (.bool true) ∧ Fr No w w' := by
  have htl : t.data.toList.length = t.size := by simp
  have H1 := hide (deflate_any t k w (by omega) ht hE)
  have H2 := hide (fun w => refused_no t k w (by omega) (by omega) ht)
  have H3 := hide (numW_any 0)
  have H4 := hide (fun w => rtokens_any t w ht)
  have HO := hide hO
  have HTL := hide htl
  have hk0 : ((k : Int) == 0) = false := by simp; omega
  have hkn : k ≠ 0 := by omega
  have HKN := hide hkn
  have hk2 : k ≤ 2 := by omega
  clear hE hO htl hk hkn
  go_enter Tryd.func7, Tryd.ntmps7
  go_wp2_with fail
  refine H1.out.mono ?_
  rintro ee w1 ⟨bs, hp, rfl, hf1⟩
  obtain ⟨ks, hrd, hbl, hbb⟩ := packOf_read hp HKN.out (by have := HTL.out; omega)
  have HF1 := hide hf1
  have HBB := hide hbb
  have hsz : (Pk.toBytes bs).length ≤ 4000 := by rw [Pk.bytes_len]; omega
  have hlen := Pk.bytes_len bs
  have hO1 := HO.out.fr hf1 (no_no _) hG
  have hG1 : 11 < w1.heap.size := Nat.lt_of_lt_of_le hG hf1.size
  unfold dfl
  obtain ⟨s, hs⟩ : ∃ s : ByteArray, s = ⟨(Pk.toBytes bs).toArray⟩ := ⟨_, rfl⟩
  have hsl : s.data.toList = Pk.toBytes bs := by rw [hs]
  have hss : s.size = (bs.length + 7) / 8 := by rw [← hlen, ← hsl]; simp
  rw [← hs]
  have HSL := hide hsl
  have HRD := hide (rread_any s 1500 w1 hO1 hG1 (by omega) (by omega) (fun p k h => lens_bad h))
  rw [HSL.out, hrd] at HRD
  obtain ⟨n, hn⟩ : ∃ n, n = bs.length := ⟨_, rfl⟩
  rw [← hn] at HRD hss hbl
  have HNN := hide hn
  clear hf1 hp hrd hbb hsz hlen hO1 hs hsl hn
  go_wp2_with fail
  refine (H2.out w1).mono ?_
  rintro ee W1 ⟨rfl, hW1⟩
  have hW1 := hW1.symm
  subst hW1
  go_wp2_with fail
  refine (H3.out _).mono ?_
  rintro ee W1 ⟨rfl, hW1⟩
  have hW1 := hW1.symm
  subst hW1
  go_wp2_with fail
  refine HRD.out.mono ?_
  intro ee w2 hrp
  rw [← HSL.out] at hrp
  obtain ⟨ov, nv, tv, hF⟩ := found_of hrp
  obtain ⟨rfl, hf2, _⟩ := hrp
  have HF2 := hide (HF1.out.trans hf2)
  obtain ⟨rb, hrb⟩ : ∃ rb, rb = w1.heap.size := ⟨_, rfl⟩
  rw [← hrb] at hF ⊢
  obtain ⟨g, cap, hnv, hgl, hgk⟩ := hF.kn
  subst hnv
  have c1 := hF.c1
  have c3 := hF.c3
  have c4 := hF.c4
  have c6 := hF.c6
  have c8 := hF.c8
  have hcv := hF.cv
  have HFO := hide hF
  have HU := hide (rDocUsed_any rb n w2 c1 (by omega))
  clear hf2 hF hrb HRD
  go_wp2_with fail
  refine HU.out.mono ?_
  rintro ee W1 ⟨rfl, hW1⟩
  have hW1 := hW1.symm
  subst hW1
  rw [← hss]
  go_wp2_with fail
  refine (H4.out w2).mono ?_
  rintro ee w3 ⟨tv2, rfl, hrow, hf3⟩
  obtain ⟨a2, cp2, rfl, hta2⟩ := toks_at hrow
  obtain ⟨a1, cp1, htv, hta1⟩ := HFO.out.tk
  subst htv
  have c9 := (hf3.cell (p := ⟨rb, 9, none⟩) HFO.out.lt (no_no _)).trans HFO.out.c9
  have c1 := (hf3.cell (p := ⟨rb, 1, none⟩) HFO.out.lt (no_no _)).trans HFO.out.c1
  have HTN : Hid ((Pk.toks t.data.toList).length ≤ 1500) := by have := Pk.toks_len t.data.toList; have := HTL.out; unfold Hid; omega
  have HST := hide (sameTokens_any a1 a2 cp1 cp2 (Pk.toks t.data.toList) w3 (hta1.fr hf3) hta2 (by have := HTN.out; omega))
  have HF3 := hide (HF2.out.trans hf3)
  have hrb3 : rb < w3.heap.size := Nat.lt_of_lt_of_le HFO.out.lt hf3.size
  obtain ⟨m, hm⟩ : ∃ m, m = (Pk.toks t.data.toList).length := ⟨_, rfl⟩
  rw [← hm] at HST c9 ⊢
  clear hf3 hrow hta1 hta2 hm H4 HU c3 c4 c6 c8 hcv hgk HFO
  go_wp2_with fail
  refine HST.out.mono ?_
  rintro ee w4 ⟨rfl, hf4⟩
  have c1 := (hf4.cell (p := ⟨rb, 1, none⟩) hrb3 (no_no _)).trans c1
  have HF4 := hide (HF3.out.trans hf4)
  clear hf4 c9 HST
  go_wp2_with fail
  go_loopw [12, 13] (fun rv iv wr => ∃ j : Nat, n ≤ j ∧ j ≤ 8 * s.size ∧ iv = .int .i64 j ∧ rv = .int .i64 0 ∧ Hid (Fr No w wr)) (fun _ iv _ => 8 * s.size - (intOf iv).toNat)
  case atStart => exact ⟨n, Nat.le_refl _, by omega, rfl, rfl, HF4.out⟩
  case round =>
    obtain ⟨j, hj, hj8, rfl, rfl, HFJ⟩ := hrel
    by_cases hlt : j < 8 * s.size
    · have hki : (j : Int) < 8 * (s.size : Int) := by omega
      have hix := fun W => wbyte_at s (j / 8) (by have : s.data.toList.length = s.size := by simp
                                                  omega) W
      rw [show ((j / 8 : Nat) : Int) = (j : Int) / 8 by omega, HSL.out] at hix
      have hbit := Pk.bitv_bytes HBB.out j
      rw [Pk.getD_past (by have := HNN.out; omega)] at hbit
      have hbit : ((Pk.toBytes bs).getD (j / 8) 0).toNat / 2 ^ (j % 8) % 2 = 0 := hbit
      have hc8 := UInt8.toNat_lt ((Pk.toBytes bs).getD (j / 8) 0)
      generalize ((Pk.toBytes bs).getD (j / 8) 0).toNat = c at *
      have HBIT := hide hbit
      clear hbit
      go_wp2_with fail
      refine ⟨⟨j + 1, by omega, by omega, by go_num, ?_, HFJ.out⟩, by simp [intOf]; omega⟩
      exact congrArg (Value.int IntKind.i64) (bit_zero c (j % 8) (by omega) HBIT.out)
    · have hki : ¬ (j : Int) < 8 * (s.size : Int) := by omega
      go_wp2_with fail
      go_ret
      exact ⟨rfl, HFJ.out⟩
end Go.Proofs.YtjjjlilflbddoaaDoor
