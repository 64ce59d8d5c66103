import Derived.Test.YtjjjlilflbddoaaGreatDoorBkA
import Derived.Test.YtjjjlilflbddoaaGreatDoorGPtM
import Derived.Test.YtjjjlilflbddoaaGreatDoorInfl
/-
  The law Back: what is packed is read again.
-/
namespace Go.Proofs.YtjjjlilflbddoaaGreatDoor
open Go.RowKit Pm
set_option maxRecDepth 100000 in
set_option maxHeartbeats 1600000 in
theorem refused_bad (t : ByteArray) (k : Int) (w : World) (h : k < 0 ∨ 2 < k) : Calls Tryz.prog 14 #[.string t, .int .i64 k] w fun e w' => e = .returned (.int .i64 11) ∧ w' = w := by
  by_cases h1 : k < 0
  · clear h
    go_enter Tryz.func14, Tryz.ntmps14
    go_wp2_with fail
    go_ret
    exact ⟨rfl, rfl⟩
  · have h2 : 2 < k := by omega
    clear h
    go_enter Tryz.func14, Tryz.ntmps14
    go_wp2_with fail
    go_ret
    exact ⟨rfl, rfl⟩
set_option maxRecDepth 100000 in
set_option maxHeartbeats 1600000 in
theorem refused_long (t : ByteArray) (k : Int) (w : World) (h1 : 0 ≤ k) (h2 : k ≤ 2) (ht : 1500 < t.size) : Calls Tryz.prog 14 #[.string t, .int .i64 k] w fun e w' => e = .returned (.int .i64 1) ∧ w' = w := by
  have g1 : ¬ k < 0 := by omega
  have g2 : ¬ 2 < k := by omega
  have hti : (1500 : Int) < (t.size : Int) := by omega
  clear h1 h2 ht
  go_enter Tryz.func14, Tryz.ntmps14
  go_wp2_with fail
  go_ret
  exact ⟨rfl, rfl⟩
set_option maxRecDepth 100000 in
set_option maxHeartbeats 1600000 in
theorem refused_no (t : ByteArray) (k : Int) (w : World) (h1 : 0 ≤ k) (h2 : k ≤ 2) (ht : t.size ≤ 1500) : Calls Tryz.prog 14 #[.string t, .int .i64 k] w fun e w' => e = .returned (.int .i64 0) ∧ w' = w := by
  have g1 : ¬ k < 0 := by omega
  have g2 : ¬ 2 < k := by omega
  have hti : ¬ (1500 : Int) < (t.size : Int) := by omega
  clear h1 h2 ht
  go_enter Tryz.func14, Tryz.ntmps14
  go_wp2_with fail
  go_ret
  exact ⟨rfl, rfl⟩
theorem numW_any (k : Int) (w : World) : Calls Tryz.prog 8 #[.int .i64 k] w fun e w' => e = .returned (.int .i64 k) ∧ w' = w := by
  go_enter Tryz.func8, Tryz.ntmps8
  go_wp2
  go_ret
  exact ⟨rfl, rfl⟩
/-- What is packed is read back, by the document. -/
theorem pack_read {k : Nat} {d : List UInt8} {bs : List Nat} (h : PackOf k d bs) (hd : d.length ≤ 1500) (lim : Nat) (hl : d.length ≤ lim) : (∃ y, Rf.read (Pk.toBytes bs) lim = (y, true) ∧ y.st = 0 ∧ y.out = d ∧ y.pos = bs.length) ∧ bs.length ≤ 32000 := by
  rcases h with ⟨_, rfl⟩ | ⟨_, rfl⟩ | ⟨_, ls, lf, tl, b1, b2, b3, rfl⟩
  · exact ⟨⟨_, Pk.read0 d lim hl (by omega), rfl, rfl, rfl⟩, by rw [Pk.size0]; omega⟩
  · exact ⟨⟨_, Pk.read1 d lim hl (by omega), rfl, rfl, rfl⟩, Pk.size1 d hd⟩
  · have H := Pk.head_of b1 b2 b3
    exact ⟨⟨_, Pk.read2 d lim H (Pk.suf_of b1 b2) hl (by omega), rfl, rfl, rfl⟩, Pk.size2 d H hd⟩
/-- And by the program. -/
theorem pack_gz {k : Nat} {d : List UInt8} {bs : List Nat} (h : PackOf k d bs) (hd : d.length ≤ 1500) (lim : Nat) (hl : d.length ≤ lim) : Gz.read (Pk.toBytes bs) lim = .ok (d, bs.length) := by
  obtain ⟨⟨y, hy, y0, y1, y2⟩, _⟩ := pack_read h hd lim hl
  have ha := read_agree (Pk.toBytes bs) lim
  rw [hy] at ha
  cases hr : Gz.read (Pk.toBytes bs) lim with
  | error e =>
    rw [hr] at ha
    exact absurd ha.1 (by simp)
  | ok o =>
    obtain ⟨o, q⟩ := o
    rw [hr] at ha
    obtain ⟨_, _, h3, h4⟩ := ha
    rw [← h3, ← h4, y1, y2]
theorem pack_len {k : Nat} {d : List UInt8} {bs : List Nat} (h : PackOf k d bs) (hd : d.length ≤ 1500) : (Pk.toBytes bs).length ≤ 4000 := by
  have := (pack_read h hd d.length (Nat.le_refl _)).2
  rw [Pk.bytes_len]; omega
theorem back_yes {k : Nat} {d : List UInt8} {bs : List Nat} (h : PackOf k d bs) (hd : d.length ≤ 1500) (lim : Nat) (hl : d.length ≤ lim) (h6 : lim ≤ 6000) : Gz.inflate (Pk.toBytes bs) lim = (d, (Pk.toBytes bs).length, 0) := by
  have h1 := pack_len h hd
  have h2 := pack_gz h hd lim hl
  unfold Gz.inflate
  rw [if_neg (by omega), if_neg (by omega), Int.toNat_natCast, h2]
  show (d, (bs.length + 7) / 8, 0) = _
  rw [Pk.bytes_len]
theorem back_less {k : Nat} {d : List UInt8} {bs : List Nat} (h : PackOf k d bs) (hd : d.length ≤ 1500) (lim : Nat) (hl : lim < d.length) (F : Fine (Pk.toBytes bs) lim) : Gz.inflate (Pk.toBytes bs) lim = ([], 0, 8) := by
  have h1 := pack_len h hd
  have h2 := pack_gz h hd d.length (Nat.le_refl _)
  have L := Gz.read_lim (Pk.toBytes bs) lim d.length (by omega)
  have f := F h1 (by omega) (by omega)
  rw [Int.toNat_natCast] at f
  have h8 : Gz.read (Pk.toBytes bs) lim = .error 8 := by
    by_cases h8 : Gz.read (Pk.toBytes bs) lim = .error 8
    · exact h8
    · exfalso
      have hs := L.same h8
      rw [h2] at hs
      cases hx : Gz.read (Pk.toBytes bs) lim with
      | error e => rw [hx] at hs; cases hs
      | ok o =>
        obtain ⟨o, q⟩ := o
        rw [hx] at hs f
        injection hs with e
        injection e with e1 e2
        have f : (o.length : Int) ≤ lim := f
        rw [← e1] at f
        omega
  unfold Gz.inflate
  rw [if_neg (by omega), if_neg (by omega), Int.toNat_natCast, h8]

set_option maxRecDepth 100000 in
set_option maxHeartbeats 1600000 in
theorem backLaw_no (t : ByteArray) (k l f : Int) (w : World) (hf : (f == 0) = false) (h1 : Calls Tryz.prog 13 #[.string t, .int .i64 k] w fun e w' => e = .returned (dfl [] f) ∧ w' = w) (h2 : Calls Tryz.prog 14 #[.string t, .int .i64 k] w fun e w' => e = .returned (.int .i64 f) ∧ w' = w) :
    Calls Tryz.prog 5 #[.string t, .int .i64 k, .int .i64 l] w fun e w' => e = .returned (.bool true) ∧ Fr No w w' := by
  have H1 := hide h1
  have H2 := hide h2
  have H3 := hide (numW_any f w)
  have hne : (f != 0) = true := by simp [bne, hf]
  clear h1 h2
  go_enter Tryz.func5, Tryz.ntmps5
  go_wp2_with fail
  refine H1.out.mono ?_
  rintro ee W1 ⟨rfl, hW1⟩
  have hW1 := hW1.symm
  subst hW1
  unfold dfl
  go_wp2_with fail
  refine H2.out.mono ?_
  rintro ee W1 ⟨rfl, hW1⟩
  have hW1 := hW1.symm
  subst hW1
  go_wp2_with fail
  refine H3.out.mono ?_
  rintro ee W1 ⟨rfl, hW1⟩
  have hW1 := hW1.symm
  subst hW1
  go_wp2_with fail
  go_ret
  exact ⟨rfl, Fr.refl _ _⟩
theorem backLaw_bad (t : ByteArray) (k l : Int) (w : World) (h : k < 0 ∨ 2 < k) : Calls Tryz.prog 5 #[.string t, .int .i64 k, .int .i64 l] w fun e w' => e = .returned (.bool true) ∧ Fr No w w' :=
  backLaw_no t k l 11 w rfl (deflate_bad t k w h) (refused_bad t k w h)
theorem backLaw_long (t : ByteArray) (k l : Int) (w : World) (h1 : 0 ≤ k) (h2 : k ≤ 2) (ht : 1500 < t.size) : Calls Tryz.prog 5 #[.string t, .int .i64 k, .int .i64 l] w fun e w' => e = .returned (.bool true) ∧ Fr No w w' :=
  backLaw_no t k l 1 w rfl (deflate_long t k w h1 h2 ht) (refused_long t k w h1 h2 ht)
theorem back_ends (k : Nat) (d : List UInt8) (bs : List Nat) (lim : Nat) (h6 : lim ≤ 6000) (h : PackOf k d bs) (hd : d.length ≤ 1500) (F : Fine (Pk.toBytes bs) lim) : (lim < d.length ∧ Gz.inflate (Pk.toBytes bs) lim = ([], 0, 8)) ∨ (¬ lim < d.length ∧ Gz.inflate (Pk.toBytes bs) lim = (d, (Pk.toBytes bs).length, 0)) := by
  by_cases hl : lim < d.length
  · exact Or.inl ⟨hl, back_less h hd lim hl F⟩
  · exact Or.inr ⟨hl, back_yes h hd lim (by omega) h6⟩

set_option maxRecDepth 100000 in
set_option maxHeartbeats 6400000 in
theorem backLaw_in (sp : Nat → Addr) (t : ByteArray) (k : Nat) (w : World) (hk : k ≤ 2) (ht : t.size ≤ 1500) (lim : Nat) (h6 : lim ≤ 6000) (hK : PkEnv w) (hE : Env sp w) (hB : Blk sp w) (hP : Pow w) :
    Calls Tryz.prog 5 #[.string t, .int .i64 k, .int .i64 (lim : Nat)] w fun e w' => e = .returned (.bool true) ∧ Fr No w w' := by
  have htl : t.data.toList.length = t.size := by simp
  have H1 := hide (deflate_any t k w hk ht hK)
  have H2 := hide (fun w => refused_no t k w (by omega) (by omega) ht)
  have H3 := hide (numW_any 0)
  have H8 := hide (numW_any 8)
  have HE := hide hE
  have HB := hide hB
  have HP := hide hP
  have HTL := hide htl
  clear hE hB hP hK htl
  have g1 : ¬ (lim : Int) < 0 := by omega
  have g2 : ¬ (6000 : Int) < (lim : Int) := by omega
  go_enter Tryz.func5, Tryz.ntmps5
  go_wp2_with fail
  refine H1.out.mono ?_
  rintro ee w1 ⟨bs, hp, rfl, hf1⟩
  have HF1 := hide hf1
  have HPK := hide hp
  have hz := HE.out.size
  have HI := hide (fun lim : Int => inflate_any sp ⟨(Pk.toBytes bs).toArray⟩ lim w1 (HE.out.fr hf1 (fun _ _ => no_no _)) (HB.out.fr hf1) (HP.out.fr hf1 (by omega) (no_no _)))
  unfold dfl
  obtain ⟨s, hs⟩ : ∃ s : ByteArray, s = ⟨(Pk.toBytes bs).toArray⟩ := ⟨_, rfl⟩
  have hsl : s.data.toList = Pk.toBytes bs := by rw [hs]
  have hss : s.size = (Pk.toBytes bs).length := by rw [← hsl]; simp
  rw [← hs] at HI ⊢
  rw [hsl] at HI
  have HSS := hide hss
  clear hf1 hp hz hs hsl hss
  go_wp2_with fail
  refine (H2.out w1).mono ?_
  rintro ee W1 ⟨rfl, hW1⟩
  have hW1 := hW1.symm
  subst hW1
  go_wp2_with fail
  refine (HI.out _).mono ?_
  rintro ee w2 ⟨rfl, hf2, F⟩
  have HF2 := hide (HF1.out.trans hf2)
  clear hf2
  rcases back_ends k t.data.toList bs _ (h6) HPK.out (by have := HTL.out; omega) F with ⟨hl, he⟩ | ⟨hl, he⟩
  · rw [he]
    unfold got
    have hli : ((lim : Nat) : Int) < (t.size : Int) := by have := HTL.out; omega
    clear he hl F HI
    go_wp2_with fail
    refine (H3.out _).mono ?_
    rintro ee W1 ⟨rfl, hW1⟩
    have hW1 := hW1.symm
    subst hW1
    go_wp2_with fail
    refine (H8.out _).mono ?_
    rintro ee W1 ⟨rfl, hW1⟩
    have hW1 := hW1.symm
    subst hW1
    go_wp2_with fail
    go_ret
    exact ⟨rfl, HF2.out⟩
  · rw [he, ← HSS.out]
    unfold got
    have hli : ¬ ((lim : Nat) : Int) < (t.size : Int) := by have := HTL.out; omega
    have htt : (⟨t.data.toList.toArray⟩ : ByteArray) = t := by cases t; simp
    simp only [htt]
    clear he hl F HI htt
    go_wp2_with fail
    refine (H3.out _).mono ?_
    rintro ee W1 ⟨rfl, hW1⟩
    have hW1 := hW1.symm
    subst hW1
    go_wp2_with fail
    refine (H3.out _).mono ?_
    rintro ee W1 ⟨rfl, hW1⟩
    have hW1 := hW1.symm
    subst hW1
    go_wp2_with fail
    go_ret
    exact ⟨rfl, HF2.out⟩

set_option maxRecDepth 100000 in
set_option maxHeartbeats 6400000 in
theorem backLaw_neg (sp : Nat → Addr) (t : ByteArray) (k : Nat) (l : Int) (w : World) (hk : k ≤ 2) (ht : t.size ≤ 1500) (g1 : l < 0) (hK : PkEnv w) (hE : Env sp w) (hB : Blk sp w) (hP : Pow w) :
    Calls Tryz.prog 5 #[.string t, .int .i64 k, .int .i64 l] w fun e w' => e = .returned (.bool true) ∧ Fr No w w' := by
  have htl : t.data.toList.length = t.size := by simp
  have H1 := hide (deflate_any t k w hk ht hK)
  have H2 := hide (fun w => refused_no t k w (by omega) (by omega) ht)
  have H3 := hide (numW_any 0)
  have H8 := hide (numW_any 8)
  have HE := hide hE
  have HB := hide hB
  have HP := hide hP
  have HTL := hide htl
  clear hE hB hP hK htl
  go_enter Tryz.func5, Tryz.ntmps5
  go_wp2_with fail
  refine H1.out.mono ?_
  rintro ee w1 ⟨bs, hp, rfl, hf1⟩
  have HF1 := hide hf1
  have HPK := hide hp
  have hz := HE.out.size
  have HI := hide (fun lim : Int => inflate_any sp ⟨(Pk.toBytes bs).toArray⟩ lim w1 (HE.out.fr hf1 (fun _ _ => no_no _)) (HB.out.fr hf1) (HP.out.fr hf1 (by omega) (no_no _)))
  unfold dfl
  obtain ⟨s, hs⟩ : ∃ s : ByteArray, s = ⟨(Pk.toBytes bs).toArray⟩ := ⟨_, rfl⟩
  have hsl : s.data.toList = Pk.toBytes bs := by rw [hs]
  have hss : s.size = (Pk.toBytes bs).length := by rw [← hsl]; simp
  rw [← hs] at HI ⊢
  rw [hsl] at HI
  have HSS := hide hss
  clear hf1 hp hz hs hsl hss
  go_wp2_with fail
  refine (H2.out w1).mono ?_
  rintro ee W1 ⟨rfl, hW1⟩
  have hW1 := hW1.symm
  subst hW1
  go_wp2_with fail
  refine (HI.out ((6000 : Nat) : Int)).mono ?_
  rintro ee w2 ⟨rfl, hf2, F⟩
  have HF2 := hide (HF1.out.trans hf2)
  clear hf2
  rcases back_ends k t.data.toList bs _ (Nat.le_refl 6000) HPK.out (by have := HTL.out; omega) F with ⟨hl, he⟩ | ⟨hl, he⟩
  · rw [he]
    unfold got
    have hli : (6000 : Int) < (t.size : Int) := by have := HTL.out; omega
    clear he hl F HI
    go_wp2_with fail
    refine (H3.out _).mono ?_
    rintro ee W1 ⟨rfl, hW1⟩
    have hW1 := hW1.symm
    subst hW1
    go_wp2_with fail
    refine (H8.out _).mono ?_
    rintro ee W1 ⟨rfl, hW1⟩
    have hW1 := hW1.symm
    subst hW1
    go_wp2_with fail
    go_ret
    exact ⟨rfl, HF2.out⟩
  · rw [he, ← HSS.out]
    unfold got
    have hli : ¬ (6000 : Int) < (t.size : Int) := by have := HTL.out; omega
    have htt : (⟨t.data.toList.toArray⟩ : ByteArray) = t := by cases t; simp
    simp only [htt]
    clear he hl F HI htt
    go_wp2_with fail
    refine (H3.out _).mono ?_
    rintro ee W1 ⟨rfl, hW1⟩
    have hW1 := hW1.symm
    subst hW1
    go_wp2_with fail
    refine (H3.out _).mono ?_
    rintro ee W1 ⟨rfl, hW1⟩
    have hW1 := hW1.symm
    subst hW1
    go_wp2_with fail
    go_ret
    exact ⟨rfl, HF2.out⟩

set_option maxRecDepth 100000 in
set_option maxHeartbeats 6400000 in
theorem backLaw_great (sp : Nat → Addr) (t : ByteArray) (k : Nat) (l : Int) (w : World) (hk : k ≤ 2) (ht : t.size ≤ 1500) (g2 : 6000 < l) (hK : PkEnv w) (hE : Env sp w) (hB : Blk sp w) (hP : Pow w) :
    Calls Tryz.prog 5 #[.string t, .int .i64 k, .int .i64 l] w fun e w' => e = .returned (.bool true) ∧ Fr No w w' := by
  have htl : t.data.toList.length = t.size := by simp
  have H1 := hide (deflate_any t k w hk ht hK)
  have H2 := hide (fun w => refused_no t k w (by omega) (by omega) ht)
  have H3 := hide (numW_any 0)
  have H8 := hide (numW_any 8)
  have HE := hide hE
  have HB := hide hB
  have HP := hide hP
  have HTL := hide htl
  clear hE hB hP hK htl
  have g1 : ¬ l < 0 := by omega
  go_enter Tryz.func5, Tryz.ntmps5
  go_wp2_with fail
  refine H1.out.mono ?_
  rintro ee w1 ⟨bs, hp, rfl, hf1⟩
  have HF1 := hide hf1
  have HPK := hide hp
  have hz := HE.out.size
  have HI := hide (fun lim : Int => inflate_any sp ⟨(Pk.toBytes bs).toArray⟩ lim w1 (HE.out.fr hf1 (fun _ _ => no_no _)) (HB.out.fr hf1) (HP.out.fr hf1 (by omega) (no_no _)))
  unfold dfl
  obtain ⟨s, hs⟩ : ∃ s : ByteArray, s = ⟨(Pk.toBytes bs).toArray⟩ := ⟨_, rfl⟩
  have hsl : s.data.toList = Pk.toBytes bs := by rw [hs]
  have hss : s.size = (Pk.toBytes bs).length := by rw [← hsl]; simp
  rw [← hs] at HI ⊢
  rw [hsl] at HI
  have HSS := hide hss
  clear hf1 hp hz hs hsl hss
  go_wp2_with fail
  refine (H2.out w1).mono ?_
  rintro ee W1 ⟨rfl, hW1⟩
  have hW1 := hW1.symm
  subst hW1
  go_wp2_with fail
  refine (HI.out ((6000 : Nat) : Int)).mono ?_
  rintro ee w2 ⟨rfl, hf2, F⟩
  have HF2 := hide (HF1.out.trans hf2)
  clear hf2
  rcases back_ends k t.data.toList bs _ (Nat.le_refl 6000) HPK.out (by have := HTL.out; omega) F with ⟨hl, he⟩ | ⟨hl, he⟩
  · rw [he]
    unfold got
    have hli : (6000 : Int) < (t.size : Int) := by have := HTL.out; omega
    clear he hl F HI
    go_wp2_with fail
    refine (H3.out _).mono ?_
    rintro ee W1 ⟨rfl, hW1⟩
    have hW1 := hW1.symm
    subst hW1
    go_wp2_with fail
    refine (H8.out _).mono ?_
    rintro ee W1 ⟨rfl, hW1⟩
    have hW1 := hW1.symm
    subst hW1
    go_wp2_with fail
    go_ret
    exact ⟨rfl, HF2.out⟩
  · rw [he, ← HSS.out]
    unfold got
    have hli : ¬ (6000 : Int) < (t.size : Int) := by have := HTL.out; omega
    have htt : (⟨t.data.toList.toArray⟩ : ByteArray) = t := by cases t; simp
    simp only [htt]
    clear he hl F HI htt
    go_wp2_with fail
    refine (H3.out _).mono ?_
    rintro ee W1 ⟨rfl, hW1⟩
    have hW1 := hW1.symm
    subst hW1
    go_wp2_with fail
    refine (H3.out _).mono ?_
    rintro ee W1 ⟨rfl, hW1⟩
    have hW1 := hW1.symm
    subst hW1
    go_wp2_with fail
    go_ret
    exact ⟨rfl, HF2.out⟩
theorem back_any (sp : Nat → Addr) (t : ByteArray) (k l : Int) (w : World) (hK : PkEnv w) (hE : Env sp w) (hB : Blk sp w) (hP : Pow w) :
    Calls Tryz.prog 5 #[.string t, .int .i64 k, .int .i64 l] w fun e w' => e = .returned (.bool true) ∧ Fr No w w' := by
  by_cases h : k < 0 ∨ 2 < k
  · exact backLaw_bad t k l w h
  · by_cases ht : 1500 < t.size
    · exact backLaw_long t k l w (by omega) (by omega) ht
    · obtain ⟨j, rfl⟩ : ∃ j : Nat, k = j := ⟨k.toNat, by omega⟩
      by_cases h1 : l < 0
      · exact backLaw_neg sp t j l w (by omega) (by omega) h1 hK hE hB hP
      · by_cases h2 : 6000 < l
        · exact backLaw_great sp t j l w (by omega) (by omega) h2 hK hE hB hP
        · obtain ⟨lim, rfl⟩ : ∃ lim : Nat, l = lim := ⟨l.toNat, by omega⟩
          exact backLaw_in sp t j w (by omega) (by omega) lim (by omega) hK hE hB hP
end Go.Proofs.YtjjjlilflbddoaaGreatDoor
