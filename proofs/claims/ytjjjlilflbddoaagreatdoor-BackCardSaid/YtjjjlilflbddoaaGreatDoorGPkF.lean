import Derived.Test.YtjjjlilflbddoaaGreatDoorGPkS
import Derived.Test.YtjjjlilflbddoaaGreatDoorGDist
import Derived.Test.YtjjjlilflbddoaaGreatDoorGMk
import Derived.BigRegion
namespace Go.Proofs.YtjjjlilflbddoaaGreatDoor
open Go.RowKit

section
variable {B wb : Nat} {K L : List Nat} {bs : List Nat} {w w' : World} {dv : Value}
/-- New blocks are to stay too. -/
theorem Wr.more (h : Wr B wb K bs w dv) (f : Fr No w w') (hL : ∀ k ∈ L, w.heap.size ≤ k ∧ k < w'.heap.size) : Wr B wb (L ++ K) bs w' dv := by
  have h' := h.no f
  have hwl := lt_of h.blk
  refine ⟨h'.blk, h'.row, fun g hg => ⟨(h'.far g hg).1, fun hm => ?_⟩, h'.bits, h'.wbB, h'.bsz, fun hm => ?_, fun k hk => ?_, h'.len⟩
  · rcases List.mem_append.1 hm with hm | hm
    · have := (wrow_lt h.row hg).2; have := (hL g hm).1; omega
    · exact (h'.far g hg).2 hm
  · rcases List.mem_append.1 hm with hm | hm
    · have := (hL wb hm).1; omega
    · exact h.wbK hm
  · rcases List.mem_append.1 hk with hk | hk
    · exact (hL k hk).2
    · exact h'.klt k hk
theorem Wr.less (h : Wr B wb (L ++ K) bs w dv) : Wr B wb K bs w dv :=
  ⟨h.blk, h.row, fun g hg => ⟨(h.far g hg).1, fun hm => (h.far g hg).2 (List.mem_append.2 (.inr hm))⟩, h.bits, h.wbB, h.bsz, fun hm => h.wbK (List.mem_append.2 (.inr hm)), fun k hk => h.klt k (List.mem_append.2 (.inr hk)), h.len⟩
theorem Fr.lessK (f : Fr (Own B (L ++ K)) w w') : Fr (Own B K) w w' := f.mono (fun _ _ e => ⟨e.1, fun hm => e.2 (List.mem_append.2 (.inr hm))⟩)
end
/-- A word of a row of words. -/
theorem word_cells {w : World} {g : Nat} {ws : List (Nat × Nat)} {ty : TypeId} (h : w.heap[g]? = some (.cells (wvs ws) ty (0, 0))) (s : Nat) (hs : s < ws.length) : w.cell? ⟨g, s * 2, none⟩ = some (.int .i64 ((ws.getD s (0, 0)).1 : Nat)) ∧ w.cell? ⟨g, s * 2 + 1, none⟩ = some (.int .i64 ((ws.getD s (0, 0)).2 : Nat)) := by
  have h0 := wvs_get ws s 0 hs (by omega)
  have h1 := wvs_get ws s 1 hs (by omega)
  rw [cell_of h, cell_of h, Nat.mul_comm s 2]
  exact ⟨h0, h1⟩
/-- The cells of a part in a row of parts. -/
theorem part_cells {w : World} {B g cap : Nat} {ts : List (Nat × Nat)} (h : w.ownsRow B 137 3 (.slice (some ⟨g, 0, none⟩) ts.length cap) ts.length (ts.flatMap partv)) (k : Nat) (hk : k < ts.length) :
    ∃ x y z, partv (ts.getD k (0, 0)) = [x, y, z] ∧ w.cell? ⟨g, k * 3, none⟩ = some x ∧ w.cell? ⟨g, k * 3 + 1, none⟩ = some y ∧ w.cell? ⟨g, k * 3 + 2, none⟩ = some z := by
  have key : ∀ (l : List (Nat × Nat)) (k r : Nat), k < l.length → r < 3 → (l.flatMap partv)[k * 3 + r]? = (partv (l.getD k (0, 0)))[r]? := by
    intro l
    induction l with
    | nil => intro k r h; simp at h
    | cons a l ih =>
      intro k r h hr
      rw [List.flatMap_cons]
      cases k with
      | zero =>
        rw [List.getElem?_append_left (by rw [partv_len]; omega), show 0 * 3 + r = r by omega]
        rfl
      | succ k =>
        rw [List.getElem?_append_right (by rw [partv_len]; omega), partv_len, show (k + 1) * 3 + r - 3 = k * 3 + r by omega, ih k r (by simpa using h) hr]
        rfl
  obtain ⟨x, y, z, he⟩ : ∃ x y z, partv (ts.getD k (0, 0)) = [x, y, z] := by unfold partv; split <;> exact ⟨_, _, _, rfl⟩
  rcases h.2 with ⟨e, _⟩ | ⟨g', cp, cur, e, _, hh, _, _, _, ht⟩
  · cases e
  · injection e with e1
    injection e1 with e1
    injection e1 with e1
    subst e1
    have hc : ∀ r, r < 3 → w.cell? ⟨g, k * 3 + r, none⟩ = ([x, y, z] : List Value)[r]? := fun r hr => by
      have e2 : (cur.toList.take (ts.length * 3))[k * 3 + r]? = (ts.flatMap partv)[k * 3 + r]? := by rw [ht]
      rw [List.getElem?_take_of_lt (by omega)] at e2
      rw [cell_of hh, ← Array.getElem?_toList, e2, key ts k r hk hr, he]
    exact ⟨x, y, z, he, hc 0 (by omega), hc 1 (by omega), hc 2 (by omega)⟩
end Go.Proofs.YtjjjlilflbddoaaGreatDoor
namespace Go.Proofs.YtjjjlilflbddoaaGreatDoor
open Go.RowKit

/-- The three numbers of a part. -/
def pch (t : Nat × Nat) : Nat := if t.2 = 0 then t.1 else 0
def pln (t : Nat × Nat) : Nat := if t.2 = 0 then 0 else t.1
theorem partv_eq (t : Nat × Nat) : partv t = [.int .u8 (pch t : Nat), .int .i64 (pln t : Nat), .int .i64 (t.2 : Nat)] := by
  unfold partv pch pln
  by_cases h : t.2 = 0
  · simp only [h]; rfl
  · simp only [if_neg h]; rfl
/-- Parts as they lie in a row. -/
def PartsAt (w : World) (K : List Nat) (ao : Option Addr) (ts : List (Nat × Nat)) : Prop :=
  ∀ k, k < ts.length → ∃ g, ao = some ⟨g, 0, none⟩ ∧ g ∈ K ∧ g < w.heap.size ∧ w.cell? ⟨g, k * 3, none⟩ = some (.int .u8 (pch (ts.getD k (0, 0)) : Nat)) ∧ w.cell? ⟨g, k * 3 + 1, none⟩ = some (.int .i64 (pln (ts.getD k (0, 0)) : Nat)) ∧ w.cell? ⟨g, k * 3 + 2, none⟩ = some (.int .i64 ((ts.getD k (0, 0)).2 : Nat))
theorem PartsAt.fr {S : Nat → Prop} {w w' : World} {K : List Nat} {ao : Option Addr} {ts : List (Nat × Nat)} (h : PartsAt w K ao ts) (f : Fr S w w') (hs : ∀ g ∈ K, ¬ S g) : PartsAt w' K ao ts := fun k hk => by
  obtain ⟨g, e, hK, hg, h0, h1, h2⟩ := h k hk
  have hn := hs g hK
  exact ⟨g, e, hK, Nat.lt_of_lt_of_le hg f.size, (f.cell (p := ⟨g, _, none⟩) hg hn).trans h0, (f.cell (p := ⟨g, _, none⟩) hg hn).trans h1, (f.cell (p := ⟨g, _, none⟩) hg hn).trans h2⟩
theorem PartsAt.more {w : World} {K L : List Nat} {ao : Option Addr} {ts : List (Nat × Nat)} (h : PartsAt w K ao ts) : PartsAt w (L ++ K) ao ts := fun k hk => by
  obtain ⟨g, e, hK, r⟩ := h k hk
  exact ⟨g, e, List.mem_append.2 (.inr hK), r⟩
theorem own_not {B : Nat} {K : List Nat} {k : Nat} (h : k ∈ K) : ¬ Own B K k := fun e => e.2 h
theorem own_low {B : Nat} {K : List Nat} {k : Nat} (h : k < B) : ¬ Own B K k := fun e => by have := e.1; omega
theorem words_length (l : List Nat) : (words l).length = l.length := by simp [words]
/-- What a part may be. -/
def TokOk (t : Nat × Nat) : Prop := (t.2 = 0 → t.1 < 256) ∧ (t.2 ≠ 0 → 3 ≤ t.1 ∧ t.1 ≤ 258 ∧ t.2 ≤ 100000)

set_option maxRecDepth 100000 in
set_option maxHeartbeats 3200000 in
theorem wsymbols_any (B wb lb cap : Nat) (ao : Option Addr) (K : List Nat) (bs : List Nat) (ts : List (Nat × Nat)) (l : List Nat) (w : World) (dv : Value) (h : Wr B wb K bs w dv) (hE : PkEnv w) (hG : 11 ≤ B)
    (hlb : Bys w lb 0 l) (hl : Lens l) (hl8 : l.length = 320) (hp : PartsAt w K ao ts) (hok : ∀ t ∈ ts, TokOk t) (hlen : bs.length + 60 * ts.length + 100 ≤ 1000000) :
    Calls Tryz.prog 52 #[.pointer (some ⟨wb, 0, none⟩), .slice ao ts.length cap, .pointer (some ⟨lb, 0, none⟩)] w (WrP B wb K (bs ++ Pk.symsBits (l.take 288) (l.drop 288) ts) w) := by
  have HB := hide hlb
  have HW := hide h
  have HE := hide hE
  have HP := hide hp
  have HOK := hide hok
  clear hlb h hE hp hok
  go_enter Tryz.func52, Tryz.ntmps52
  have hlbl := HB.out.1
  have HT1 : Hid (Lens (l.take 288)) := fun i hi => by
    rw [List.length_take] at hi
    rw [List.getD, List.getElem?_take_of_lt (by omega)]
    exact hl i (by omega)
  have HT2 : Hid (Lens (l.drop 288)) := fun i hi => by
    rw [List.length_drop] at hi
    have := hl (288 + i) (by omega)
    rw [List.getD, List.getElem?_drop]
    exact this
  have HB1 : Hid (Bys w lb 0 (l.take 288)) := ⟨hlbl, fun i hi => by
    rw [List.length_take] at hi
    rw [List.getD, List.getElem?_take_of_lt (by omega)]
    exact HB.out.2 i (by omega)⟩
  have HB2 : Hid (Bys w lb 288 (l.drop 288)) := ⟨hlbl, fun i hi => by
    rw [List.length_drop] at hi
    rw [List.getD, List.getElem?_drop]
    have := HB.out.2 (288 + i) (by omega)
    rw [show 0 + (288 + i) = 288 + i by omega] at this
    exact this⟩
  have hl1 : (l.take 288).length = 288 := by rw [List.length_take]; omega
  have hl2 : (l.drop 288).length = 32 := by rw [List.length_drop]; omega
  obtain ⟨ls, hls⟩ : ∃ ls, ls = l.take 288 := ⟨_, rfl⟩
  obtain ⟨lf, hlf⟩ : ∃ lf, lf = l.drop 288 := ⟨_, rfl⟩
  rw [← hls] at HT1 HB1 hl1 ⊢
  rw [← hlf] at HT2 HB2 hl2 ⊢
  clear hls hlf hl hl8 HB
  go_wp2_with fail
  have hc1 := wordsOf_any lb 0 320 ls w HB1.out HT1.out (by omega)
  rw [hl1] at hc1
  refine hc1.mono ?_
  clear hc1
  rintro e w1 ⟨gs, hgs, rfl, hgsb, hf1⟩
  have HGS := hide hgsb
  have HF1 := hide hf1
  have hs1 := hf1.size
  clear hgsb hf1
  go_wp2_with fail
  have hc2 := wordsOf_any lb 288 32 lf w1 (HB2.out.fr HF1.out (no_no _)) HT2.out (by omega)
  rw [hl2] at hc2
  refine hc2.mono ?_
  clear hc2
  rintro e w2 ⟨gd, hgd, rfl, hgdb, hf2⟩
  have HF2 := hide (HF1.out.trans hf2)
  have hs2 := hf2.size
  have hgsl := lt_of HGS.out
  have hgdl := lt_of hgdb
  have HGS2 := hide (hf2.at HGS.out (no_no _))
  have HGD2 := hide hgdb
  have HW2 : Hid (Wr B wb ([gs, gd] ++ K) bs w2 dv) := HW.out.more HF2.out (fun k hk => by
    rcases List.mem_cons.1 hk with rfl | hk
    · omega
    · rw [List.mem_singleton.1 hk]; omega)
  have HE2 : Hid (PkEnv w2) := HE.out.fr HF2.out (fun _ _ => no_no _)
  have HP2 : Hid (PartsAt w2 ([gs, gd] ++ K) ao ts) := (HP.out.fr HF2.out (fun _ _ => no_no _)).more
  have hgsK : gs ∈ [gs, gd] ++ K := by simp
  have hgdK : gd ∈ [gs, gd] ++ K := by simp
  obtain ⟨K2, hK2⟩ : ∃ K2, K2 = [gs, gd] ++ K := ⟨_, rfl⟩
  have HK2 := hide hK2
  rw [← hK2] at HW2 HP2 hgsK hgdK
  clear hK2 hf2 hgdb HE HP HGS HF1 HW
  go_wp2_with fail
  go_loopw [22] (fun iv wr => ∃ j : Nat, j ≤ ts.length ∧ iv = .int .i64 j ∧ Hid (∃ dv, Wr B wb K2 (bs ++ (ts.take j).flatMap (Pk.tokBits ls lf)) wr dv) ∧ Hid (Fr (Own B K2) w2 wr)) (fun iv _ => ts.length - (intOf iv).toNat)
  case atStart => exact ⟨0, Nat.zero_le _, rfl, ⟨dv, HW2.out.same (by simp)⟩, Fr.refl _ _⟩
  case round =>
    obtain ⟨j, hj, rfl, HWJ, HFJ⟩ := hrel
    by_cases hlt : j < ts.length
    · obtain ⟨g, e, hgK, hg, hx, hy, hz⟩ := HP2.out.fr HFJ.out (fun _ h => own_not h) j hlt
      subst e
      have hjl : (j : Int) < (ts.length : Int) := by omega
      obtain ⟨t, ht⟩ : ∃ t, t = ts.getD j (0, 0) := ⟨_, rfl⟩
      rw [← ht] at hx hy hz
      have hob := alloc_at wr (.cells #[.int .u8 (pch t : Nat), .int .i64 (pln t : Nat), .int .i64 (t.2 : Nat)] 137)
      have HF3 : Hid (Fr No wr (wr.alloc (.cells #[.int .u8 (pch t : Nat), .int .i64 (pln t : Nat), .int .i64 (t.2 : Nat)] 137))) := (Fr.refl _ _).alloc _
      have hz3 : Hid ((wr.alloc (.cells #[.int .u8 (pch t : Nat), .int .i64 (pln t : Nat), .int .i64 (t.2 : Nat)] 137)).heap.size = wr.heap.size + 1) := World.size_alloc ..
      have HOB := hide hob
      have HT := hide ht
      clear hob ht
      go_upto_region 5 with fail
      obtain ⟨w3, hw3⟩ : ∃ w3, w3 = wr.alloc (.cells #[.int .u8 (pch t : Nat), .int .i64 (pln t : Nat), .int .i64 (t.2 : Nat)] 137) := ⟨_, rfl⟩
      rw [← hw3] at HOB HF3 hz3 ⊢
      obtain ⟨ob, hobe⟩ : ∃ ob, ob = wr.heap.size := ⟨_, rfl⟩
      rw [← hobe] at HOB hz3 ⊢
      have HOBE := hide hobe
      clear hw3 hx hy hz hobe
      -- the block stays
      obtain ⟨dvj, hwj⟩ := HWJ.out
      have HW3 : Hid (Wr B wb ([ob] ++ K2) (bs ++ (ts.take j).flatMap (Pk.tokBits ls lf)) w3 dvj) := hwj.more HF3.out (fun k hk => by rw [List.mem_singleton.1 hk, HOBE.out, hz3.out, HOBE.out]; omega)
      have HFW3 : Hid (Fr (Own B K2) w2 w3) := HFJ.out.trans HF3.out.of_no
      obtain ⟨K3, hK3⟩ : ∃ K3, K3 = [ob] ++ K2 := ⟨_, rfl⟩
      have HK3 := hide hK3
      have HE3 : Hid (PkEnv w3) := HE2.out.fr HFW3.out (fun _ h => own_low (by omega))
      have hobK : ob ∈ K3 := by rw [hK3]; simp
      have hgsK3 : gs ∈ K3 := by rw [hK3]; exact List.mem_append.2 (.inr hgsK)
      have hgdK3 : gd ∈ K3 := by rw [hK3]; exact List.mem_append.2 (.inr hgdK)
      have HGS3 := hide (HFW3.out.at HGS2.out (own_not hgsK))
      have HGD3 := hide (HFW3.out.at HGD2.out (own_not hgdK))
      rw [← hK3] at HW3
      have htm : t ∈ ts := by
        rw [HT.out, List.getD, List.getElem?_eq_getElem hlt]
        exact List.getElem_mem hlt
      have htok := HOK.out t htm
      have hw0 : (ts.take j).length = j := by rw [List.length_take]; omega
      have hlj := Pk.toksBits_len ls lf HT1.out HT2.out (ts.take j)
      rw [hw0] at hlj
      have HTK : Hid ((ts.take (j + 1)).flatMap (Pk.tokBits ls lf) = (ts.take j).flatMap (Pk.tokBits ls lf) ++ Pk.tokBits ls lf t) := by
        unfold Hid
        rw [List.take_add_one, List.flatMap_append, HT.out, List.getD, List.getElem?_eq_getElem hlt]
        simp
      obtain ⟨bj, hbj⟩ : ∃ bj, bj = bs ++ (ts.take j).flatMap (Pk.tokBits ls lf) := ⟨_, rfl⟩
      have hbl : bj.length + 60 * (ts.length - j) + 100 ≤ 1000000 := by rw [hbj, List.length_append]; omega
      rw [← hbj] at HW3
      have HBJ := hide hbj
      clear hbj hK3 hwj hw0 hlj
      have c0 : w3.cell? ⟨ob, 0, none⟩ = some (.int .u8 (pch t : Nat)) := by rw [cell_of HOB.out]; rfl
      have c1 : w3.cell? ⟨ob, 1, none⟩ = some (.int .i64 (pln t : Nat)) := by rw [cell_of HOB.out]; rfl
      have c2 : w3.cell? ⟨ob, 2, none⟩ = some (.int .i64 (t.2 : Nat)) := by rw [cell_of HOB.out]; rfl
      go_wp2_with fail
      have hcs := psymbol_any t w3 HE3.out htok.1 (fun h => ⟨(htok.2 h).1, (htok.2 h).2.1⟩)
      rw [partv_eq] at hcs
      refine hcs.mono ?_
      clear hcs c0 c1 c2
      rintro e w4 ⟨rfl, hf4⟩
      have HW4 := hide (HW3.out.no hf4)
      have HFW4 := hide (HFW3.out.trans hf4.of_no)
      have HE4 := hide (HE3.out.fr hf4 (fun _ _ => no_no _))
      have HOB4 := hide (hf4.at HOB.out (no_no _))
      have HGS4 := hide (hf4.at HGS3.out (no_no _))
      have HGD4 := hide (hf4.at HGD3.out (no_no _))
      clear hf4 HW3 HFW3 HE3 HOB HGS3 HGD3
      have hsy : Pk.symOf t ≤ 285 := by
        unfold Pk.symOf
        split
        · rename_i h; have := htok.1 h; omega
        · exact (Pk.lenSym_le _).2
      have hwl := Pk.wbits_len ls HT1.out (Pk.symOf t)
      have HTB : Hid (Pk.tokBits ls lf t = Pk.wbits (words ls) (Pk.symOf t) ++ (if t.2 = 0 then [] else Pk.farBits lf t)) := rfl
      have HSYE : Hid (t.2 ≠ 0 → Pk.symOf t = Pk.lenSym t.1) := fun h => by unfold Pk.symOf; rw [if_neg h]
      obtain ⟨sy, hsye⟩ : ∃ sy, sy = Pk.symOf t := ⟨_, rfl⟩
      rw [← hsye] at hsy hwl HTB HSYE ⊢
      clear hsye
      have hwle : (words ls).length = 288 := by rw [words_length, hl1]
      have hwlf : (words lf).length = 32 := by rw [words_length, hl2]
      obtain ⟨q0, q1⟩ := word_cells HGS4.out sy (by omega)
      have hq2 := (Pk.words_get ls sy).resolve_right (fun h => h HT1.out)
      have HWB : Hid (Pk.wbits (words ls) sy = Pk.wordBits ((words ls).getD sy (0, 0)).1 ((words ls).getD sy (0, 0)).2) := rfl
      obtain ⟨wo, hwo⟩ : ∃ wo, wo = (words ls).getD sy (0, 0) := ⟨_, rfl⟩
      rw [← hwo] at q0 q1 hq2 HWB
      clear hwo
      have hsi : (sy : Int) < 288 := by omega
      go_wp2_with fail
      refine (wword_any B wb K3 bj wo.1 wo.2 w4 dvj HW4.out (by omega) (by omega)).mono ?_
      clear q0 q1 hq2
      rintro e w5 ⟨rfl, hf5, dv5, hw5⟩
      rw [← HWB.out] at hw5
      have hbl5 : (bj ++ Pk.wbits (words ls) sy).length + 60 * (ts.length - j) + 85 ≤ 1000000 := by rw [List.length_append]; omega
      have HOB5 := hide (hf5.at HOB4.out (own_not hobK))
      have HGD5 := hide (hf5.at HGD4.out (own_not hgdK3))
      have HE5 := hide (HE4.out.fr hf5 (fun _ h => own_low (by omega)))
      have hf5' : Fr (Own B K2) w4 w5 := by rw [HK3.out] at hf5; exact hf5.lessK
      have HFW5 := hide (HFW4.out.trans hf5')
      have HW5 := hide hw5
      have c1 : w5.cell? ⟨ob, 1, none⟩ = some (.int .i64 (pln t : Nat)) := by rw [cell_of HOB5.out]; rfl
      clear hw5 hf5 hf5' HWB HW4 HFW4 HOB4 HGS4 HGD4 HE4
      by_cases ht0 : t.2 = 0
      · have hp0 : pln t = 0 := by unfold pln; rw [if_pos ht0]
        rw [hp0] at c1
        go_wp2_with fail
        refine ⟨⟨j + 1, by omega, by go_num, ⟨dv5, ?_⟩, HFW5.out⟩, by simp [intOf]; omega⟩
        have hw := HW5.out
        rw [HK3.out] at hw
        refine hw.less.same ?_
        rw [HTK.out, HTB.out, if_pos ht0, HBJ.out]
        simp
      · have hpl : pln t = t.1 := by unfold pln; rw [if_neg ht0]
        rw [hpl] at c1
        obtain ⟨hn1, hn2, hn3⟩ := htok.2 ht0
        have hne : ((t.1 : Int) == 0) = false := by simp; omega
        obtain ⟨hs1', hs2'⟩ := Pk.lenSym_le t.1
        have hsyl := HSYE.out ht0
        rw [← hsyl] at hs1' hs2'
        obtain ⟨k, hk⟩ : ∃ k, k = sy - 257 := ⟨_, rfl⟩
        have hki : (sy : Int) - 257 = (k : Int) := by omega
        have hk29 : (k : Int) < 29 := by omega
        have hcl := HE5.out.len k (by omega)
        have hfl : Gz.lenFrom.getD k 0 ≤ t.1 := by
          have := Pk.down_at Gz.lenFrom t.1 (by show 3 ≤ _; omega) 28
          rw [hk, hsyl]
          unfold Pk.lenSym
          rw [Nat.add_sub_cancel_left]
          exact this
        obtain ⟨lf0, hlf0⟩ : ∃ lf0, lf0 = Gz.lenFrom.getD k 0 := ⟨_, rfl⟩
        rw [← hlf0] at hcl hfl
        have HLF0 := hide hlf0
        have HKE := hide hk
        clear hlf0 hk
        have HSYL := hide hsyl
        have hfi : (t.1 : Int) - (lf0 : Int) = ((t.1 - lf0 : Nat) : Int) := by omega
        have hwk : IntKind.i64.wrap (k : Int) = k := wraps_i64 _ (by omega) (by omega)
        have hwv : IntKind.i64.wrap ((t.1 - lf0 : Nat) : Int) = ((t.1 - lf0 : Nat) : Int) := wraps_i64 _ (by omega) (by omega)
        have hpl7 := hide hpl
        clear hsyl hpl
        go_upto_region 8 with fail
        refine wp_region_held (S := fun W => W.cell? ⟨ob, 1, none⟩ = some (.int .i64 (t.1 : Nat)) ∧ W.cell? ⟨9, k, none⟩ = some (.int .i64 (lf0 : Nat))) (by kernel_rfl) ?_
        change wpAnyH _ _ _ _ _ _ _ _ (World.drew _)
        have hS0 : (World.drew w5).cell? ⟨ob, 1, none⟩ = some (.int .i64 (t.1 : Nat)) ∧ (World.drew w5).cell? ⟨9, k, none⟩ = some (.int .i64 (lf0 : Nat)) := ⟨c1, hcl⟩
        refine wpAnyH_take (i := 0) (v := ?_) rfl (by kernel_rfl) (by kernel_rfl) (by kernel_rfl) (fun _ _ _ h => h) (Or.inl ⟨by rfl, by intro w _; go_simp; with_reducible rfl⟩) hS0 ?_
        refine wpAnyH_take (i := 1) (v := .pointer (some ⟨ob, 1, none⟩)) rfl (by kernel_rfl) (by kernel_rfl) (by kernel_rfl) (fun _ _ _ h => h) (Or.inl ⟨by rfl, by intro w _; go_simp⟩) hS0 ?_
        refine wpAnyH_take (i := 2) (v := .int .i64 (t.1 : Nat)) rfl (by kernel_rfl) (by kernel_rfl) (by kernel_rfl) (fun _ _ _ h => h) (Or.inl ⟨by rfl, by intro w h; have h := h.1; go_simp⟩) hS0 ?_
        refine wpAnyH_take (i := 3) (v := .int .i64 (sy : Nat)) rfl (by kernel_rfl) (by kernel_rfl) (by kernel_rfl) (fun _ _ _ h => h) (Or.inl ⟨by rfl, by intro w _; go_simp⟩) hS0 ?_
        refine wpAnyH_take (i := 4) (v := .int .i64 (k : Nat)) rfl (by kernel_rfl) (by kernel_rfl) (by kernel_rfl) (fun _ _ _ h => h) (Or.inl ⟨by rfl, by intro w _; go_simp⟩) hS0 ?_
        refine wpAnyH_take (i := 5) (v := .pointer (some ⟨9, k, none⟩)) rfl (by kernel_rfl) (by kernel_rfl) (by kernel_rfl) (fun _ _ _ h => h) (Or.inl ⟨by rfl, by intro w _; go_simp⟩) hS0 ?_
        refine wpAnyH_take (i := 6) (v := .int .i64 (lf0 : Nat)) rfl (by kernel_rfl) (by kernel_rfl) (by kernel_rfl) (fun _ _ _ h => h) (Or.inl ⟨by rfl, by intro w h; have h := h.2; go_simp⟩) hS0 ?_
        refine wpAnyH_take (i := 7) (v := .int .i64 ((t.1 - lf0 : Nat) : Int)) rfl (by kernel_rfl) (by kernel_rfl) (by kernel_rfl) (fun _ _ _ h => h) (Or.inl ⟨by rfl, by intro w _; go_simp⟩) hS0 ?_
        refine wpAnyH_take (i := 8) (v := .int .i64 (sy : Nat)) rfl (by kernel_rfl) (by kernel_rfl) (by kernel_rfl) (fun _ _ _ h => h) (Or.inl ⟨by rfl, by intro w _; go_simp⟩) hS0 ?_
        refine wpAnyH_one (i := 9) (by kernel_rfl) rfl rfl (fun K'' hK' => ?_)
        go_simp
        refine (lengthBits_any sy (World.drew w5) (by omega)).mono ?_
        rintro e w6 ⟨rfl, rfl⟩
        refine hK' _ _ hS0 ?_
        clear hK' K''
        refine wpAnyH_one (i := 10) (by kernel_rfl) rfl rfl (fun K'' hK' => ?_)
        go_simp
        have hlb6 := Pk.lenBits_le sy (by omega)
        refine (wnumber_any B wb K3 (bj ++ Pk.wbits (words ls) sy) (t.1 - lf0) (Gz.lenBits sy) (World.drew w5) dv5 (HW5.out.no ((Fr.refl No w5).drew)) (by omega) (by omega)).mono ?_
        rintro e w7 ⟨rfl, hf7, dv7, hw7⟩
        have hf7 : Fr (Own B K3) w5 w7 := (Fr.refl (Own B K3) w5).drew.trans hf7
        have HOB7 := hide (hf7.at HOB5.out (own_not hobK))
        have HGD7 := hide (hf7.at HGD5.out (own_not hgdK3))
        have HE7 := hide (HE5.out.fr hf7 (fun _ h => own_low (by omega)))
        have hf7' : Fr (Own B K2) w5 w7 := by rw [HK3.out] at hf7; exact hf7.lessK
        have HFW7 := hide (HFW5.out.trans hf7')
        have HW7 := hide hw7
        have hbl7 : (bj ++ Pk.wbits (words ls) sy ++ Pk.numBits (t.1 - lf0) (Gz.lenBits sy)).length + 60 * (ts.length - j) + 79 ≤ 1000000 := by rw [List.length_append, Pk.num_len]; omega
        have HX1 : Hid (Pk.numBits (t.1 - lf0) (Gz.lenBits sy) = Pk.numBits (t.1 - Gz.lenFrom.getD (Pk.lenSym t.1 - 257) 0) (Gz.lenBits (Pk.lenSym t.1))) := by unfold Hid; rw [HLF0.out, HKE.out, HSYL.out]
        have d1 : w7.cell? ⟨ob, 1, none⟩ = some (.int .i64 (t.1 : Nat)) := by rw [cell_of HOB7.out, hpl7.out]; rfl
        have d2 : w7.cell? ⟨ob, 2, none⟩ = some (.int .i64 (t.2 : Nat)) := by rw [cell_of HOB7.out]; rfl
        have dl := (hf7.cell (p := ⟨9, k, none⟩) (by have := HE5.out.size; show 9 < _; omega) (own_low (by show 9 < _; omega))).trans hcl
        refine hK' _ _ ⟨d1, dl⟩ ?_
        clear hK' K''
        refine wpAnyH_done (by kernel_rfl) ?_ _
        clear hw7 hf7 hf7' HW5 HFW5 HOB5 HGD5 HE5 c1 hcl hfi hwk hwv hS0 dl hki hk29
        have hfs := Pk.farSym_le t.2
        have hfd : Gz.distFrom.getD (Pk.farSym t.2) 0 ≤ t.2 := Pk.down_at Gz.distFrom t.2 (by show 1 ≤ _; omega) 29
        have hcf := farSym_any t.2 w7 HE7.out (by omega) hn3
        have HX2 : Hid (Pk.farBits lf t = Pk.numBits (t.1 - Gz.lenFrom.getD (Pk.lenSym t.1 - 257) 0) (Gz.lenBits (Pk.lenSym t.1)) ++ (Pk.wbits (words lf) (Pk.farSym t.2) ++ Pk.numBits (t.2 - Gz.distFrom.getD (Pk.farSym t.2) 0) (Gz.distBits (Pk.farSym t.2)))) := rfl
        have hce := HE7.out.far (Pk.farSym t.2) (by omega)
        obtain ⟨fs, hfse⟩ : ∃ fs, fs = Pk.farSym t.2 := ⟨_, rfl⟩
        rw [← hfse] at hfs hfd hcf HX2 hce
        clear hfse
        obtain ⟨df0, hdf0⟩ : ∃ df0, df0 = Gz.distFrom.getD fs 0 := ⟨_, rfl⟩
        rw [← hdf0] at hfd hce HX2
        clear hdf0
        have HCF := hide hcf
        clear hcf
        go_wp2_with fail
        refine HCF.out.mono ?_
        clear HCF
        rintro e w8 ⟨rfl, rfl⟩
        have hwd := Pk.wbits_len lf HT2.out fs
        obtain ⟨q0, q1⟩ := word_cells HGD7.out fs (by omega)
        have hq2 := (Pk.words_get lf fs).resolve_right (fun h => h HT2.out)
        have HWB : Hid (Pk.wbits (words lf) fs = Pk.wordBits ((words lf).getD fs (0, 0)).1 ((words lf).getD fs (0, 0)).2) := rfl
        obtain ⟨wo2, hwo2⟩ : ∃ wo2, wo2 = (words lf).getD fs (0, 0) := ⟨_, rfl⟩
        rw [← hwo2] at q0 q1 hq2 HWB
        clear hwo2
        have hfi : (fs : Int) < 32 := by omega
        go_wp2_with fail
        refine (wword_any B wb K3 _ wo2.1 wo2.2 w8 dv7 HW7.out (by omega) (by omega)).mono ?_
        clear q0 q1 hq2
        rintro e w9 ⟨rfl, hf9, dv9, hw9⟩
        rw [← HWB.out] at hw9
        have hbl9 : (bj ++ Pk.wbits (words ls) sy ++ Pk.numBits (t.1 - lf0) (Gz.lenBits sy) ++ Pk.wbits (words lf) fs).length + 60 * (ts.length - j) + 64 ≤ 1000000 := by rw [List.length_append]; omega
        have HOB9 := hide (hf9.at HOB7.out (own_not hobK))
        have HE9 := hide (HE7.out.fr hf9 (fun _ h => own_low (by omega)))
        have hf9' : Fr (Own B K2) w8 w9 := by rw [HK3.out] at hf9; exact hf9.lessK
        have HFW9 := hide (HFW7.out.trans hf9')
        have HW9 := hide hw9
        have c2 : w9.cell? ⟨ob, 2, none⟩ = some (.int .i64 (t.2 : Nat)) := by rw [cell_of HOB9.out]; rfl
        have hcd := (hf9.cell (p := ⟨10, fs, none⟩) (by have := HE7.out.size; show 10 < _; omega) (own_low (by show 10 < _; omega))).trans hce
        clear hw9 hf9 hf9' HWB HW7 HFW7 HOB7 HGD7 HE7 hce d1 d2
        have hdi : (t.2 : Int) - (df0 : Int) = ((t.2 - df0 : Nat) : Int) := by omega
        have hf30 : (fs : Int) < 30 := by omega
        have hwv : IntKind.i64.wrap ((t.2 - df0 : Nat) : Int) = ((t.2 - df0 : Nat) : Int) := wraps_i64 _ (by omega) (by omega)
        go_upto_region 11 with fail
        refine wp_region_held (S := fun W => W.cell? ⟨ob, 2, none⟩ = some (.int .i64 (t.2 : Nat)) ∧ W.cell? ⟨10, fs, none⟩ = some (.int .i64 (df0 : Nat))) (by kernel_rfl) ?_
        change wpAnyH _ _ _ _ _ _ _ _ (World.drew _)
        have hS0 : (World.drew w9).cell? ⟨ob, 2, none⟩ = some (.int .i64 (t.2 : Nat)) ∧ (World.drew w9).cell? ⟨10, fs, none⟩ = some (.int .i64 (df0 : Nat)) := ⟨c2, hcd⟩
        refine wpAnyH_take (i := 0) (v := ?_) rfl (by kernel_rfl) (by kernel_rfl) (by kernel_rfl) (fun _ _ _ h => h) (Or.inl ⟨by rfl, by intro w _; go_simp; with_reducible rfl⟩) hS0 ?_
        refine wpAnyH_take (i := 1) (v := .pointer (some ⟨ob, 2, none⟩)) rfl (by kernel_rfl) (by kernel_rfl) (by kernel_rfl) (fun _ _ _ h => h) (Or.inl ⟨by rfl, by intro w _; go_simp⟩) hS0 ?_
        refine wpAnyH_take (i := 2) (v := .int .i64 (t.2 : Nat)) rfl (by kernel_rfl) (by kernel_rfl) (by kernel_rfl) (fun _ _ _ h => h) (Or.inl ⟨by rfl, by intro w h; have h := h.1; go_simp⟩) hS0 ?_
        refine wpAnyH_take (i := 3) (v := .int .i64 (fs : Nat)) rfl (by kernel_rfl) (by kernel_rfl) (by kernel_rfl) (fun _ _ _ h => h) (Or.inl ⟨by rfl, by intro w _; go_simp⟩) hS0 ?_
        refine wpAnyH_take (i := 4) (v := .pointer (some ⟨10, fs, none⟩)) rfl (by kernel_rfl) (by kernel_rfl) (by kernel_rfl) (fun _ _ _ h => h) (Or.inl ⟨by rfl, by intro w _; go_simp⟩) hS0 ?_
        refine wpAnyH_take (i := 5) (v := .int .i64 (df0 : Nat)) rfl (by kernel_rfl) (by kernel_rfl) (by kernel_rfl) (fun _ _ _ h => h) (Or.inl ⟨by rfl, by intro w h; have h := h.2; go_simp⟩) hS0 ?_
        refine wpAnyH_take (i := 6) (v := .int .i64 ((t.2 - df0 : Nat) : Int)) rfl (by kernel_rfl) (by kernel_rfl) (by kernel_rfl) (fun _ _ _ h => h) (Or.inl ⟨by rfl, by intro w _; go_simp⟩) hS0 ?_
        refine wpAnyH_take (i := 7) (v := .int .i64 (fs : Nat)) rfl (by kernel_rfl) (by kernel_rfl) (by kernel_rfl) (fun _ _ _ h => h) (Or.inl ⟨by rfl, by intro w _; go_simp⟩) hS0 ?_
        refine wpAnyH_one (i := 8) (by kernel_rfl) rfl rfl (fun K'' hK' => ?_)
        go_simp
        refine (distanceBits_any fs (World.drew w9) (by omega)).mono ?_
        rintro e w10 ⟨rfl, rfl⟩
        refine hK' _ _ hS0 ?_
        clear hK' K''
        refine wpAnyH_one (i := 9) (by kernel_rfl) rfl rfl (fun K'' hK' => ?_)
        go_simp
        have hdb := Pk.distBits_le fs (by omega)
        refine (wnumber_any B wb K3 _ (t.2 - df0) (Gz.distBits fs) (World.drew w9) dv9 (HW9.out.no ((Fr.refl No w9).drew)) (by omega) (by omega)).mono ?_
        rintro e w11 ⟨rfl, hf11, dv11, hw11⟩
        have hf11 : Fr (Own B K3) w9 w11 := (Fr.refl (Own B K3) w9).drew.trans hf11
        have hob11 := hf11.at HOB9.out (own_not hobK)
        have hf11' : Fr (Own B K2) w9 w11 := by rw [HK3.out] at hf11; exact hf11.lessK
        have HFW11 := hide (HFW9.out.trans hf11')
        have HW11 : Hid (Wr B wb K2 (bs ++ (ts.take (j + 1)).flatMap (Pk.tokBits ls lf)) w11 dv11) := by
          unfold Hid
          rw [HK3.out] at hw11
          refine hw11.less.same ?_
          rw [HTK.out, HTB.out, if_neg ht0, HX2.out, ← HX1.out, HBJ.out]
          simp only [List.append_assoc]
        have d2 : w11.cell? ⟨ob, 2, none⟩ = some (.int .i64 (t.2 : Nat)) := by rw [cell_of hob11]; rfl
        have dl := (hf11.cell (p := ⟨10, fs, none⟩) (by have := HE9.out.size; show 10 < _; omega) (own_low (by show 10 < _; omega))).trans hcd
        refine hK' _ _ ⟨d2, dl⟩ ?_
        clear hK' K''
        refine wpAnyH_done (by kernel_rfl) ?_ _
        clear hw11 hf11 hf11' HW9 HFW9 HOB9 HE9 c2 hcd hdi hwv hS0 dl d2 hob11
        go_wp2_with fail
        exact ⟨⟨j + 1, by omega, by go_num, ⟨dv11, HW11.out⟩, HFW11.out⟩, by simp [intOf]; omega⟩
    · have e : j = ts.length := by omega
      subst e
      obtain ⟨dvj, hwj⟩ := HWJ.out
      rw [List.take_length] at hwj
      have hlj := Pk.toksBits_len ls lf HT1.out HT2.out ts
      have hwlen : (words ls).length = 288 := by rw [words_length, hl1]
      obtain ⟨q0, q1⟩ := word_cells (HFJ.out.at HGS2.out (own_not hgsK)) 256 (by omega)
      have hq2 := (Pk.words_get ls 256).resolve_right (fun h => h HT1.out)
      have HWB : Hid (Pk.wbits (words ls) 256 = Pk.wordBits ((words ls).getD 256 (0, 0)).1 ((words ls).getD 256 (0, 0)).2) := rfl
      obtain ⟨wo, hwo⟩ : ∃ wo, wo = (words ls).getD 256 (0, 0) := ⟨_, rfl⟩
      rw [← hwo] at q0 q1 hq2 HWB
      clear hwo
      have HWE := hide hwj
      clear hwj
      go_wp2_with fail
      refine (wword_any B wb K2 _ wo.1 wo.2 wr dvj HWE.out (by omega) (by rw [List.length_append]; omega)).mono ?_
      rintro e w5 ⟨rfl, hf5, dv5, hw5⟩
      rw [← HWB.out] at hw5
      have HFE : Hid (Fr (Own B K) w w5) := HF2.out.of_no.trans (by have := HFJ.out.trans hf5; rw [HK2.out] at this; exact this.lessK)
      have HWN : Hid (Wr B wb K (bs ++ Pk.symsBits ls lf ts) w5 dv5) := by
        unfold Hid
        rw [HK2.out] at hw5
        refine hw5.less.same ?_
        unfold Pk.symsBits
        rw [List.append_assoc]
      clear hw5 hf5 q0 q1
      go_wp2
      go_end0
      exact ⟨rfl, HFE.out, dv5, HWN.out⟩
end Go.Proofs.YtjjjlilflbddoaaGreatDoor
