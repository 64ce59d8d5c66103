import Derived.Test.YtjjjlilflbddoaaGreatDoorGPtI
import Derived.Test.YtjjjlilflbddoaaGreatDoorGPkF
/-
  The head of a block of kind 2 is written.
-/
namespace Go.Proofs.YtjjjlilflbddoaaGreatDoor
open Go.RowKit Pm

theorem first_succ (tl : List Nat) (n : Nat) : Pk.firstBits tl (n + 1) = Pk.firstBits tl n ++ Pk.numBits (tl.getD (Gz.order.getD n 0) 0) 3 := by
  unfold Pk.firstBits
  rw [List.range_succ, List.flatMap_append]
  simp
theorem first_len (tl : List Nat) : ∀ n, (Pk.firstBits tl n).length = 3 * n
  | 0 => rfl
  | n + 1 => by rw [first_succ, List.length_append, first_len tl n, Pk.num_len]; omega
theorem tell_len {tl : List Nat} (h : Lens tl) : ∀ us : List (Nat × Nat), (Pk.tellBits tl us).length ≤ 22 * us.length
  | [] => Nat.le_refl _
  | t :: us => by
    have ih := tell_len h us
    have h1 := Pk.wbits_len tl h t.1
    have h2 : Pk.tBits t.1 ≤ 7 := by unfold Pk.tBits; split <;> (try split) <;> (try split) <;> omega
    unfold Pk.tellBits at ih ⊢
    rw [List.flatMap_cons, List.length_append, List.length_cons]
    unfold Pk.tellBit at ih ⊢
    rw [List.length_append, Pk.num_len]
    omega
theorem tell_snoc (tl : List Nat) (us : List (Nat × Nat)) (k : Nat) (h : k < us.length) : Pk.tellBits tl (us.take (k + 1)) = Pk.tellBits tl (us.take k) ++ Pk.tellBit tl (us.getD k (0, 0)) := by
  unfold Pk.tellBits
  rw [List.take_add_one, List.flatMap_append, List.getD, List.getElem?_eq_getElem h]
  simp
theorem tells_pos {l : Nat} {r : List Nat} (h : ∀ x ∈ l :: r, x ≤ 15) : 0 < (Pk.tells (l :: r)).length := by
  have : Pk.tells (l :: r) = Pk.tellsFrom (l :: r) none := rfl
  rw [this, Pk.tells_at l r none h, List.length_cons]
  omega
theorem runBits_eq (s : Nat) : runBits s = Pk.tBits s := rfl
/-- What writing the head comes to. -/
def HeadP (B wb : Nat) (K : List Nat) (bs ls lf : List Nat) (w : World) (e : Ending) (w' : World) : Prop := ∃ tl, Bst (Pk.telC (Pk.tells (Pk.allOf ls lf))) 7 tl ∧ WrP B wb K (bs ++ Pk.headBits ls lf tl) w e w'

set_option maxRecDepth 100000 in
set_option maxHeartbeats 12800000 in
theorem wcodes_any (B wb lb : Nat) (K bs l : List Nat) (w : World) (dv : Value) (h : Wr B wb K bs w dv) (hE : PkEnv w) (hG : 11 ≤ B) (hlb : Bys w lb 0 l) (hl : Lens l) (hl8 : l.length = 320) (hns : 257 ≤ Pk.nsy (l.take 288)) (hnd : Pk.nds (l.drop 288) ≤ 32) (hlen : bs.length ≤ 100) :
    Calls Tryz.prog 51 #[.pointer (some ⟨wb, 0, none⟩), .pointer (some ⟨lb, 0, none⟩)] w (HeadP B wb K bs (l.take 288) (l.drop 288) w) := by
  have hl1 : (l.take 288).length = 288 := by rw [List.length_take]; omega
  have hl2 : (l.drop 288).length = 32 := by rw [List.length_drop]; omega
  have hb1 : Bys w lb 0 (l.take 288) := bys_take hlb
  have hb2 : Bys w lb 288 (l.drop 288) := by have := bys_drop (k := 288) hlb; rwa [Nat.zero_add] at this
  have HU1 := hide (upToLast_any lb 0 320 (l.take 288) w hb1 (by omega))
  have HU2 := hide (upToLast_any lb 288 32 (l.drop 288) w hb2 (by omega))
  rw [hl1] at HU1
  rw [hl2] at HU2
  have hns2 : Pk.upTo (l.take 288) 288 ≤ 288 := (Pk.upTo_le _ 288).1
  have hnd2 : Pk.upTo (l.drop 288) 32 ≤ 32 := (Pk.upTo_le _ 32).1
  have hall : Pk.allOf (l.take 288) (l.drop 288) = l.take (Pk.nsy (l.take 288)) ++ (l.drop 288).take (Pk.nds (l.drop 288)) := by
    unfold Pk.allOf
    rw [List.take_take, Nat.min_eq_left (by unfold Pk.nsy; omega)]
  have HTE := hide (tellings_any lb (Pk.nsy (l.take 288)) (Pk.nds (l.drop 288)) l (Pk.allOf (l.take 288) (l.drop 288)) w hlb hl8 hl (by unfold Pk.nsy; omega) hnd (by omega) hall)
  have hal : (Pk.allOf (l.take 288) (l.drop 288)).length = Pk.nsy (l.take 288) + Pk.nds (l.drop 288) := by
    rw [hall, List.length_append, List.length_take, List.length_take]; unfold Pk.nsy; omega
  have h15 : ∀ x ∈ Pk.allOf (l.take 288) (l.drop 288), x ≤ 15 := fun x hx => by
    rw [hall] at hx
    rcases List.mem_append.1 hx with h | h
    · exact Pk.lens_mem hl x (List.mem_of_mem_take h)
    · exact Pk.lens_mem hl x (List.mem_of_mem_drop (List.mem_of_mem_take h))
  have htok := Pk.tells_ok _ (Pk.allOf (l.take 288) (l.drop 288)) none (Nat.le_refl _) h15
  have hpos : 0 < (Pk.tells (Pk.allOf (l.take 288) (l.drop 288))).length := by
    match ha : Pk.allOf (l.take 288) (l.drop 288) with
    | [] => rw [ha] at hal; simp at hal; omega
    | x :: r => exact tells_pos (by rw [← ha]; exact h15)
  have HNS : Hid (Pk.nsy (l.take 288) = Pk.upTo (l.take 288) 288) := rfl
  have HND : Hid (Pk.nds (l.drop 288) = max 1 (Pk.upTo (l.drop 288) 32)) := rfl
  have HHB : Hid (∀ tl, Pk.headBits (l.take 288) (l.drop 288) tl = Pk.numBits (Pk.nsy (l.take 288) - 257) 5 ++ (Pk.numBits (Pk.nds (l.drop 288) - 1) 5 ++ (Pk.numBits (Pk.cntTo tl 19 - 4) 4 ++ (Pk.firstBits tl (Pk.cntTo tl 19) ++ Pk.tellBits tl (Pk.tells (Pk.allOf (l.take 288) (l.drop 288))))))) := fun _ => rfl
  obtain ⟨ls, hls⟩ : ∃ ls, ls = l.take 288 := ⟨_, rfl⟩
  obtain ⟨lf, hlf⟩ : ∃ lf, lf = l.drop 288 := ⟨_, rfl⟩
  rw [← hls, ← hlf] at HTE hal h15 htok hpos HHB ⊢
  rw [← hls] at HU1 HNS hns2 hns
  rw [← hlf] at HU2 HND hnd2 hnd
  obtain ⟨us, hus⟩ : ∃ us, us = Pk.tells (Pk.allOf ls lf) := ⟨_, rfl⟩
  have HTE : Hid (Calls Tryz.prog 77 #[.pointer (some ⟨lb, 0, none⟩), .int .i64 (Pk.nsy ls : Nat), .int .i64 (Pk.nds lf : Nat)] w fun e w' => ∃ tv, e = .returned tv ∧ w'.ownsRow w.heap.size 150 2 tv us.length (us.flatMap wordv) ∧ Fr No w w') := by rw [hus]; exact HTE.out
  have htok : us.length ≤ Pk.nsy ls + Pk.nds lf ∧ ∀ t ∈ us, t.1 < 19 ∧ t.2 < 2 ^ Pk.tBits t.1 := by rw [hus, ← hal]; exact htok
  rw [← hus] at hpos HHB
  have HUS := hide hus
  obtain ⟨ns, hnse⟩ : ∃ ns, ns = Pk.nsy ls := ⟨_, rfl⟩
  obtain ⟨nd, hnde⟩ : ∃ nd, nd = Pk.nds lf := ⟨_, rfl⟩
  rw [← hnse, ← hnde] at HTE htok HHB
  rw [← hnse] at HNS hns
  rw [← hnde] at HND hnd
  obtain ⟨u1, hu1⟩ : ∃ u1, u1 = Pk.upTo ls 288 := ⟨_, rfl⟩
  obtain ⟨u2, hu2⟩ : ∃ u2, u2 = Pk.upTo lf 32 := ⟨_, rfl⟩
  rw [← hu1] at HU1 HNS hns2
  rw [← hu2] at HU2 HND hnd2
  have hnsu : ns = u1 := HNS.out
  subst hnsu
  have hndu : nd = max 1 u2 := HND.out
  have HW := hide h
  have HEE := hide hE
  have HTK := hide htok.2
  have husl : us.length ≤ 330 := by have := htok.1; omega
  have hnd1 : 1 ≤ nd := by omega
  have HGG := hide hG
  have hwsz := h.bsz
  clear h hE hlb hb1 hb2 hall hal h15 hl hl8 hl1 hl2 hls hlf hus hnse hnde hu1 hu2 htok HNS HND hG
  by_cases hmx : 1 < u2
  · have hmxi : (1 : Int) < (u2 : Int) := by omega
    have hmxj : ¬ (u2 : Int) < 1 := by omega
    have hnu : nd = u2 := by omega
    subst hnu
    clear hndu
    go_enter Tryz.func51, Tryz.ntmps51
    go_wp2_with fail
    refine HU1.out.mono ?_
    rintro ee W1 ⟨rfl, hW1⟩
    have hW1 := hW1.symm
    subst hW1
    go_wp2_with fail
    refine HU2.out.mono ?_
    rintro ee W1 ⟨rfl, hW1⟩
    have hW1 := hW1.symm
    subst hW1
    go_wp2_with fail
    refine HTE.out.mono ?_
    rintro ee w1 ⟨tv, rfl, hr1, hf1⟩
    have HLT := hide (lensTelling_any w.heap.size tv us w1 hr1 (by omega) (fun t ht => (HTK.out t ht).1))
    obtain ⟨ao, tcap, htv, hcells⟩ := wd_cells hr1
    subst htv
    have HF1 := hide hf1
    have HC1 := hide hcells
    have hs1 := hf1.size
    obtain ⟨n, hne⟩ : ∃ n, n = us.length := ⟨_, rfl⟩
    rw [← hne] at HLT husl hpos ⊢
    have HNE := hide hne
    clear hr1 hf1 hcells hne HU1 HU2 HTE
    go_wp2_with fail
    refine HLT.out.mono ?_
    rintro ee w2 ⟨g, X, hg, rfl, hgb, hX, hSd, hf2⟩
    have hcl : (Pk.telC us).length = 19 := by simp [Pk.telC]
    have hbst : Bst (Pk.telC us) 7 (lens (Pk.telC us) X 7) := bst_lens hX hSd (by omega) (by rw [hcl]; decide)
    obtain ⟨tl, htl⟩ : ∃ tl, tl = lens (Pk.telC us) X 7 := ⟨_, rfl⟩
    rw [← htl] at hgb hbst
    have htl19 : tl.length = 19 := by rw [hbst.len, hcl]
    have htl7 : ∀ i, tl.getD i 0 ≤ 7 := fun i => hbst.le i
    have HTLL : Hid (Lens tl) := fun i _ => by have := htl7 i; omega
    have HBST := hide hbst
    have HTL7 := hide htl7
    obtain ⟨gt, hao, hgtB, hgtl, _, _⟩ := HC1.out 0 (by have := HNE.out; omega)
    subst hao
    have HF2 := hide (HF1.out.trans hf2)
    have hgtl2 : gt < w2.heap.size := Nat.lt_of_lt_of_le hgtl hf2.size
    have HC2 : Hid (∀ k, k < us.length → w2.cell? ⟨gt, k * 2, none⟩ = some (.int .i64 ((us.getD k (0, 0)).1 : Nat)) ∧ w2.cell? ⟨gt, k * 2 + 1, none⟩ = some (.int .i64 ((us.getD k (0, 0)).2 : Nat))) := fun k hk => by
      obtain ⟨g', e1, _, _, c0, c1⟩ := HC1.out k hk
      injection e1 with e1
      injection e1 with e1
      subst e1
      exact ⟨(hf2.cell (p := ⟨gt, _, none⟩) hgtl (no_no _)).trans c0, (hf2.cell (p := ⟨gt, _, none⟩) hgtl (no_no _)).trans c1⟩
    have HGB := hide hgb
    have hgl := lt_of hgb
    have hgw : w.heap.size ≤ g := by omega
    have HW2 : Hid (Wr B wb ([g, gt] ++ K) bs w2 dv) := HW.out.more HF2.out (fun k hk => by
      rcases List.mem_cons.1 hk with rfl | hk
      · omega
      · rw [List.mem_singleton.1 hk]; omega)
    have HE2 : Hid (PkEnv w2) := HEE.out.fr HF2.out (fun _ _ => no_no _)
    obtain ⟨K2, hK2⟩ : ∃ K2, K2 = [g, gt] ++ K := ⟨_, rfl⟩
    have hgK : g ∈ K2 := by rw [hK2]; simp
    have hgtK : gt ∈ K2 := by rw [hK2]; simp
    have HK2 := hide hK2
    rw [← hK2] at HW2
    rw [hcl]
    clear hK2 hf2 hgb hX hSd htl hcl hbst HLT HC1 HF1 HW HEE htl7
    have HBY2 : Hid (Bys w2 g 0 tl) := ⟨hgl, fun i hi => by rw [Nat.zero_add, cell_of HGB.out, uvs_get hi]⟩
    go_wp2_with fail
    go_loopw [8] (fun cv wr => ∃ k : Nat, 4 ≤ k ∧ k ≤ 19 ∧ cv = .int .i64 k ∧ Hid (Pk.cntTo tl 19 = Pk.cntTo tl k) ∧ Hid (Fr No w2 wr)) (fun cv _ => (intOf cv).toNat)
    case atStart => exact ⟨19, by omega, by omega, rfl, rfl, Fr.refl _ _⟩
    case round =>
      obtain ⟨k, hk4, hk19, rfl, HK, HFC⟩ := hrel
      have HDN : Hid (∀ j, k = j + 1 → Pk.cntTo tl k = if 4 < j + 1 ∧ tl.getD (Gz.order.getD j 0) 0 = 0 then Pk.cntTo tl j else j + 1) := fun j e => by subst e; rfl
      have hE3 := HE2.out.fr HFC.out (fun _ _ => no_no _)
      by_cases hgo : 4 < k ∧ tl.getD (Gz.order.getD (k - 1) 0) 0 = 0
      · obtain ⟨j, rfl⟩ : ∃ j, k = j + 1 := ⟨k - 1, by omega⟩
        rw [show j + 1 - 1 = j by omega] at hgo
        have ct := hE3.tell j (by omega)
        have hoj := order_le j (by omega)
        obtain ⟨o, ho⟩ : ∃ o, o = Gz.order.getD j 0 := ⟨_, rfl⟩
        rw [← ho] at ct hoj hgo
        have cl := (HBY2.out.fr HFC.out (no_no _)).2 o (by rw [htl19]; exact hoj)
        rw [Nat.zero_add, hgo.2] at cl
        have hoi : (o : Int) < 19 := by omega
        have hji : ((j + 1 : Nat) : Int) - 1 = (j : Int) := by omega
        have hj19 : (j : Int) < 19 := by omega
        have hj4 : (4 : Int) < ((j + 1 : Nat) : Int) := by omega
        have HNX : Hid (Pk.cntTo tl 19 = Pk.cntTo tl j) := by unfold Hid; rw [HK.out, HDN.out j rfl, if_pos ⟨by omega, by rw [← ho]; exact hgo.2⟩]
        have hjk4 : 4 ≤ j := by omega
        clear hgo ho hE3 HDN
        go_wp2_with fail
        refine ⟨⟨j, hjk4, by omega, by go_num, HNX.out, HFC.out⟩, by simp [intOf]⟩
      · obtain ⟨j, rfl⟩ : ∃ j, k = j + 1 := ⟨k - 1, by omega⟩
        rw [show j + 1 - 1 = j by omega] at hgo
        have HCN : Hid (Pk.cntTo tl 19 = j + 1) := by
          unfold Hid
          rw [HK.out, HDN.out j rfl]
          by_cases h4 : 4 < j + 1
          · rw [if_neg (fun h => hgo h)]
          · rw [if_neg (fun h => hgo h)]
        obtain ⟨cn, hcn⟩ : ∃ cn, cn = j + 1 := ⟨_, rfl⟩
        have hs2r := HFC.out.size
        obtain ⟨w3, hw3⟩ : ∃ w3, w3 = wr := ⟨_, rfl⟩
        subst hw3
        have HW3 := hide (HW2.out.no HFC.out)
        have HE3 := hide hE3
        have HBY3 := hide (HBY2.out.fr HFC.out (no_no _))
        have HC3 : Hid (∀ k, k < us.length → w3.cell? ⟨gt, k * 2, none⟩ = some (.int .i64 ((us.getD k (0, 0)).1 : Nat)) ∧ w3.cell? ⟨gt, k * 2 + 1, none⟩ = some (.int .i64 ((us.getD k (0, 0)).2 : Nat))) := fun k hk => ⟨(HFC.out.cell (p := ⟨gt, _, none⟩) hgtl2 (no_no _)).trans (HC2.out k hk).1, (HFC.out.cell (p := ⟨gt, _, none⟩) hgtl2 (no_no _)).trans (HC2.out k hk).2⟩
        have HF3 := hide (HF2.out.trans HFC.out)
        have ct := hE3.tell j (by omega)
        have hoj := order_le j (by omega)
        obtain ⟨o, ho⟩ : ∃ o, o = Gz.order.getD j 0 := ⟨_, rfl⟩
        rw [← ho] at ct hoj hgo
        have cl := HBY3.out.2 o (by rw [htl19]; exact hoj)
        rw [Nat.zero_add] at cl
        obtain ⟨x, hx⟩ : ∃ x, x = tl.getD o 0 := ⟨_, rfl⟩
        rw [← hx] at cl hgo
        have hoi : (o : Int) < 19 := by omega
        have hji : ((j + 1 : Nat) : Int) - 1 = (j : Int) := by omega
        have hj19 : (j : Int) < 19 := by omega
        rw [← hcn] at HCN hk4 hk19 hji ⊢
        have HLEN : Hid (∀ m, (Pk.firstBits tl m).length = 3 * m) := first_len tl
        obtain ⟨a1, ha1⟩ : ∃ a1, a1 = ns - 257 := ⟨_, rfl⟩
        obtain ⟨a2, ha2⟩ : ∃ a2, a2 = nd - 1 := ⟨_, rfl⟩
        obtain ⟨a3, ha3⟩ : ∃ a3, a3 = cn - 4 := ⟨_, rfl⟩
        have i1 : (ns : Int) - 257 = (a1 : Int) := by omega
        have i2 : (nd : Int) - 1 = (a2 : Int) := by omega
        have i3 : (cn : Int) - 4 = (a3 : Int) := by omega
        have wa1 : IntKind.i64.wrap (a1 : Int) = a1 := wraps_i64 _ (by omega) (by omega)
        have wa2 : IntKind.i64.wrap (a2 : Int) = a2 := wraps_i64 _ (by omega) (by omega)
        have wa3 : IntKind.i64.wrap (a3 : Int) = a3 := wraps_i64 _ (by omega) (by omega)
        have HA := hide (And.intro ha1 (And.intro ha2 ha3))
        have HJ := hide hcn
        have hcn0 : cn ≤ 19 := hk19
        have hdec : (4 : Int) < (cn : Int) → ((x : Int) == 0) = false := fun h => by
          have : ¬ x = 0 := fun e => hgo ⟨by omega, e⟩
          simp
          omega
        clear hx ho ha1 ha2 ha3 hcn hE3 HDN HK hgo
        by_cases h4 : (4 : Int) < (cn : Int)
        · have hx0 := hdec h4
          clear hdec
          go_wp2_with fail
          refine (wnumber_any B wb K2 bs a1 5 w3 dv HW3.out (by omega) (by omega)).mono ?_
          rintro ee w4 ⟨rfl, hf4, dv4, hw4⟩
          have HW4 := hide hw4
          have HF4 := hide hf4
          clear hw4 hf4
          go_wp2_with fail
          refine (wnumber_any B wb K2 _ a2 5 w4 dv4 HW4.out (by omega) (by rw [List.length_append, Pk.num_len]; omega)).mono ?_
          rintro ee w5 ⟨rfl, hf5, dv5, hw5⟩
          have HW5 := hide hw5
          have HF5 := hide (HF4.out.trans hf5)
          clear hw5 hf5 HW4 HF4
          go_wp2_with fail
          refine (wnumber_any B wb K2 _ a3 4 w5 dv5 HW5.out (by omega) (by rw [List.length_append, List.length_append, Pk.num_len, Pk.num_len]; omega)).mono ?_
          rintro ee w6 ⟨rfl, hf6, dv6, hw6⟩
          have HF6 := hide (HF5.out.trans hf6)
          obtain ⟨b6, hb6⟩ : ∃ b6, b6 = bs ++ Pk.numBits a1 5 ++ Pk.numBits a2 5 ++ Pk.numBits a3 4 := ⟨_, rfl⟩
          have hb6l : b6.length ≤ 120 := by rw [hb6, List.length_append, List.length_append, List.length_append, Pk.num_len, Pk.num_len, Pk.num_len]; omega
          rw [← hb6] at hw6
          have HW6 := hide hw6
          have HB6 := hide hb6
          clear hw6 hf6 hb6 HW5 HF5 ct cl
          go_wp2_with fail
          go_loopw [57] (fun iv wi => ∃ i : Nat, i ≤ cn ∧ iv = .int .i64 i ∧ Hid (∃ dvi, Wr B wb K2 (b6 ++ Pk.firstBits tl i) wi dvi) ∧ Hid (Fr (Own B K2) w3 wi)) (fun iv _ => cn - (intOf iv).toNat)
          case atStart => exact ⟨0, Nat.zero_le _, rfl, ⟨dv6, HW6.out.same (by simp [Pk.firstBits])⟩, HF6.out⟩
          case round =>
            obtain ⟨i, hi, rfl, HWI, HFI⟩ := hrel
            have hs3w := HFI.out.size
            have hgl3 : g < w3.heap.size := HBY3.out.1
            have hE4 := HE3.out.fr HFI.out (fun _ h => own_low (by have := HGG.out; omega))
            by_cases hlt : i < cn
            · have hlti : (i : Int) < (cn : Int) := by omega
              have ct := hE4.tell i (by omega)
              have hoj := order_le i (by omega)
              have HFS := hide (first_succ tl i)
              obtain ⟨o, ho⟩ : ∃ o, o = Gz.order.getD i 0 := ⟨_, rfl⟩
              rw [← ho] at ct hoj HFS
              have cl := (HBY3.out.fr HFI.out (own_not hgK)).2 o (by rw [htl19]; exact hoj)
              rw [Nat.zero_add] at cl
              have hx7 := HTL7.out o
              obtain ⟨x, hx⟩ : ∃ x, x = tl.getD o 0 := ⟨_, rfl⟩
              rw [← hx] at cl hx7 HFS
              have hoi : (o : Int) < 19 := by omega
              have hi19 : (i : Int) < 19 := by omega
              have wx : IntKind.i64.wrap (x : Int) = x := wraps_i64 _ (by omega) (by omega)
              obtain ⟨dvi, hwi⟩ := HWI.out
              have HWJ := hide hwi
              have hfl := HLEN.out i
              clear hx ho hE4 hwi HWI
              go_wp2_with fail
              refine (wnumber_any B wb K2 _ x 3 wr dvi HWJ.out (by omega) (by rw [List.length_append, hfl]; omega)).mono ?_
              rintro ee w7 ⟨rfl, hf7, dv7, hw7⟩
              rw [List.append_assoc, ← HFS.out] at hw7
              have HW7 := hide hw7
              have HF7 := hide (HFI.out.trans hf7)
              clear hw7 hf7 HWJ HFI ct cl
              go_wp2_with fail
              refine ⟨⟨i + 1, by omega, by go_num, ⟨dv7, HW7.out⟩, HF7.out⟩, by simp [intOf]; omega⟩
            · have hie : i = cn := by omega
              subst hie
              have hlti : ¬ (i : Int) < (i : Int) := by omega
              have hwo := wordsOf_any g 0 19 tl wr (HBY3.out.fr HFI.out (own_not hgK)) HTLL.out (by omega)
              rw [htl19] at hwo
              have HWO := hide hwo
              clear hwo
              go_wp2_with fail
              refine HWO.out.mono ?_
              rintro ee w8 ⟨gw, hgwB, rfl, hgwb, hf8⟩
              obtain ⟨dvi, hwi⟩ := HWI.out
              have hgwl := lt_of hgwb
              have HW8 : Hid (Wr B wb ([gw] ++ K2) (b6 ++ Pk.firstBits tl i) w8 dvi) := hwi.more hf8 (fun k hk => by rw [List.mem_singleton.1 hk]; omega)
              obtain ⟨K3, hK3⟩ : ∃ K3, K3 = [gw] ++ K2 := ⟨_, rfl⟩
              have hgwK : gw ∈ K3 := by rw [hK3]; simp
              have hgtK3 : gt ∈ K3 := by rw [hK3]; exact List.mem_append.2 (.inr hgtK)
              have HK3 := hide hK3
              rw [← hK3] at HW8
              have HGW8 := hide hgwb
              have HF8 := hide (HFI.out.trans hf8.of_no)
              have hgtl3 : gt < w3.heap.size := by omega
              have HC8 : Hid (∀ k, k < us.length → w8.cell? ⟨gt, k * 2, none⟩ = some (.int .i64 ((us.getD k (0, 0)).1 : Nat)) ∧ w8.cell? ⟨gt, k * 2 + 1, none⟩ = some (.int .i64 ((us.getD k (0, 0)).2 : Nat))) := fun k hk => ⟨(HF8.out.cell (p := ⟨gt, _, none⟩) hgtl3 (own_not hgtK)).trans (HC3.out k hk).1, (HF8.out.cell (p := ⟨gt, _, none⟩) hgtl3 (own_not hgtK)).trans (HC3.out k hk).2⟩
              have hgtl8 : gt < w8.heap.size := Nat.lt_of_lt_of_le hgtl3 HF8.out.size
              have hwll : (words tl).length = 19 := by rw [words_length, htl19]
              obtain ⟨b8, hb8⟩ : ∃ b8, b8 = b6 ++ Pk.firstBits tl i := ⟨_, rfl⟩
              have hb8l : b8.length ≤ 200 := by rw [hb8, List.length_append, HLEN.out i]; omega
              rw [← hb8] at HW8
              have HB8 := hide hb8
              clear hK3 hgwb hwi hf8 hb8 HWO hE4
              go_wp2_with fail
              go_loopw [74] (fun jv wj => ∃ j : Nat, j ≤ n ∧ jv = .int .i64 j ∧ Hid (∃ dvj, Wr B wb K3 (b8 ++ Pk.tellBits tl (us.take j)) wj dvj) ∧ Hid (Fr (Own B K3) w8 wj)) (fun jv _ => n - (intOf jv).toNat)
              case atStart => exact ⟨0, Nat.zero_le _, rfl, ⟨dvi, HW8.out.same (by simp [Pk.tellBits])⟩, Fr.refl _ _⟩
              case round =>
                obtain ⟨j, hj, rfl, HWJ, HFJ⟩ := hrel
                by_cases hjn : j < n
                · have hjni : (j : Int) < (n : Int) := by omega
                  have hju : j < us.length := by have := HNE.out; omega
                  have c0 := (HFJ.out.cell (p := ⟨gt, j * 2, none⟩) hgtl8 (own_not hgtK3)).trans (HC8.out j hju).1
                  have c1 := (HFJ.out.cell (p := ⟨gt, j * 2 + 1, none⟩) hgtl8 (own_not hgtK3)).trans (HC8.out j hju).2
                  have hut := HTK.out (us.getD j (0, 0)) (by rw [List.getD, List.getElem?_eq_getElem hju]; exact List.getElem_mem _)
                  have HSN := hide (tell_snoc tl us j hju)
                  have hlj := tell_len HTLL.out (us.take j)
                  rw [List.length_take] at hlj
                  obtain ⟨t, ht⟩ : ∃ t, t = us.getD j (0, 0) := ⟨_, rfl⟩
                  rw [← ht] at c0 c1 hut HSN
                  have HSN : Hid (Pk.tellBits tl (us.take (j + 1)) = Pk.tellBits tl (us.take j) ++ (Pk.wbits (words tl) t.1 ++ Pk.numBits t.2 (Pk.tBits t.1))) := HSN.out
                  obtain ⟨sy, hsy⟩ : ∃ sy, sy = t.1 := ⟨_, rfl⟩
                  obtain ⟨mr, hmr⟩ : ∃ mr, mr = t.2 := ⟨_, rfl⟩
                  rw [← hsy, ← hmr] at HSN hut
                  rw [← hsy] at c0
                  rw [← hmr] at c1
                  have hbt7 : Pk.tBits sy ≤ 7 := by unfold Pk.tBits; split <;> (try split) <;> (try split) <;> omega
                  obtain ⟨wa, hwa⟩ : ∃ wa, wa = wr.alloc (.cells #[.int .i64 (sy : Nat), .int .i64 (mr : Nat)] 150) := ⟨_, rfl⟩
                  have hfa : Fr No wr wa := by rw [hwa]; exact (Fr.refl _ _).alloc _
                  have hba : wa.heap[wr.heap.size]? = some (.cells #[.int .i64 (sy : Nat), .int .i64 (mr : Nat)] 150 (0, 0)) := by rw [hwa]; exact alloc_at wr _
                  obtain ⟨ob, hob⟩ : ∃ ob, ob = wr.heap.size := ⟨_, rfl⟩
                  have a0 : (wr.alloc (.cells #[.int .i64 (sy : Nat), .int .i64 (mr : Nat)] 150)).cell? ⟨wr.heap.size, 0, none⟩ = some (.int .i64 (sy : Nat)) := by rw [← hwa, cell_of hba]; rfl
                  have HBEH := hide (behind_any sy wa (by omega))
                  obtain ⟨dvj, hwj⟩ := HWJ.out
                  have hasz : wa.heap.size = wr.heap.size + 1 := by rw [hwa, World.size_alloc]
                  have HWA4 : Hid (Wr B wb ([ob] ++ K3) (b8 ++ Pk.tellBits tl (us.take j)) wa dvj) := hwj.more hfa (fun k hk => by rw [List.mem_singleton.1 hk, hob, hasz]; omega)
                  obtain ⟨K4, hK4⟩ : ∃ K4, K4 = [ob] ++ K3 := ⟨_, rfl⟩
                  have hobK : ob ∈ K4 := by rw [hK4]; simp
                  have hgwK4 : gw ∈ K4 := by rw [hK4]; exact List.mem_append.2 (.inr hgwK)
                  have HK4 := hide hK4
                  rw [← hK4] at HWA4
                  have HBA := hide hba
                  rw [← hob] at HBA
                  have HFA := hide (HFJ.out.trans hfa.of_no)
                  have HGWA := hide (HFA.out.at HGW8.out (own_not hgwK))
                  have HWAE := hide hwa
                  obtain ⟨bj, hbj⟩ : ∃ bj, bj = b8 ++ Pk.tellBits tl (us.take j) := ⟨_, rfl⟩
                  have hbjl : bj.length ≤ 10000 := by rw [hbj, List.length_append]; omega
                  rw [← hbj] at HWA4
                  have HBJ := hide hbj
                  have HOB := hide hob
                  clear hwa hfa hba hwj hasz hK4 hbj hlj hsy hmr ht HWJ hob
                  go_wp2_with fail
                  rw [← HWAE.out]
                  refine HBEH.out.mono ?_
                  rintro ee W1 ⟨rfl, hW1⟩
                  have hW1 := hW1.symm
                  subst hW1
                  rw [← HOB.out]
                  rw [runBits_eq]
                  clear a0
                  have b0 : wa.cell? ⟨ob, 0, none⟩ = some (.int .i64 (sy : Nat)) := by rw [cell_of HBA.out]; rfl
                  obtain ⟨q0, q1⟩ := word_cells HGWA.out sy (by omega)
                  have hq2 := (Pk.words_get tl sy).resolve_right (fun h => h HTLL.out)
                  have HWB : Hid (Pk.wbits (words tl) sy = Pk.wordBits ((words tl).getD sy (0, 0)).1 ((words tl).getD sy (0, 0)).2) := rfl
                  obtain ⟨wo, hwo⟩ : ∃ wo, wo = (words tl).getD sy (0, 0) := ⟨_, rfl⟩
                  rw [← hwo] at q0 q1 hq2 HWB
                  clear hwo
                  have hsyi : (sy : Int) < 19 := by omega
                  obtain ⟨bt, hbt⟩ : ∃ bt, bt = Pk.tBits sy := ⟨_, rfl⟩
                  rw [← hbt] at HSN hbt7 ⊢
                  clear hbt
                  go_wp2_with fail
                  refine (wword_any B wb K4 _ wo.1 wo.2 wa dvj HWA4.out (by omega) (by omega)).mono ?_
                  rintro ee w9 ⟨rfl, hf9, dv9, hw9⟩
                  rw [← HWB.out] at hw9
                  have HB9 := hide (hf9.at HBA.out (own_not hobK))
                  have hf9' : Fr (Own B K3) wa w9 := by rw [HK4.out] at hf9; exact hf9.lessK
                  have HF9 := hide (HFA.out.trans hf9')
                  have HW9 := hide hw9
                  have b1 : w9.cell? ⟨ob, 1, none⟩ = some (.int .i64 (mr : Nat)) := by rw [cell_of HB9.out]; rfl
                  have hwbl := Pk.wbits_len tl HTLL.out sy
                  clear hw9 hf9 hf9' q0 q1 b0 HBEH HWA4 HFA HGWA
                  go_wp2_with fail
                  refine (wnumber_any B wb K4 _ mr bt w9 dv9 HW9.out (by omega) (by rw [List.length_append]; omega)).mono ?_
                  rintro ee w10 ⟨rfl, hf10, dv10, hw10⟩
                  have hf10' : Fr (Own B K3) w9 w10 := by rw [HK4.out] at hf10; exact hf10.lessK
                  have HF10 := hide (HF9.out.trans hf10')
                  have HW10 : Hid (Wr B wb K3 (b8 ++ Pk.tellBits tl (us.take (j + 1))) w10 dv10) := by
                    unfold Hid
                    rw [HK4.out] at hw10
                    refine hw10.less.same ?_
                    rw [HSN.out, HBJ.out]
                    simp only [List.append_assoc]
                  clear hw10 hf10 hf10' HW9 HF9 HB9 b1
                  go_wp2_with fail
                  refine ⟨⟨j + 1, by omega, by go_num, ⟨dv10, HW10.out⟩, HF10.out⟩, by simp [intOf]; omega⟩
                · have hje : j = n := by omega
                  subst hje
                  have hjni : ¬ (j : Int) < (j : Int) := by omega
                  obtain ⟨dvj, hwj⟩ := HWJ.out
                  have HDN : Hid (HeadP B wb K bs ls lf w (.returned (.tuple #[])) wr) := by
                    refine ⟨tl, by rw [← HUS.out]; exact HBST.out, rfl, ?_, dvj, ?_⟩
                    · have h1 := HFJ.out
                      rw [HK3.out] at h1
                      have h2 := HF8.out.trans h1.lessK
                      rw [HK2.out] at h2
                      exact HF3.out.of_no.trans h2.lessK
                    · rw [HK3.out, HK2.out] at hwj
                      refine hwj.less.less.same ?_
                      rw [HHB.out tl, HB8.out, HB6.out, HCN.out, List.take_of_length_le (by have := HNE.out; omega), HA.out.1, HA.out.2.1, HA.out.2.2]
                      simp only [List.append_assoc]
                  go_wp2
                  go_end0
                  exact HDN.out
        · clear hdec
          go_wp2_with fail
          refine (wnumber_any B wb K2 bs a1 5 w3 dv HW3.out (by omega) (by omega)).mono ?_
          rintro ee w4 ⟨rfl, hf4, dv4, hw4⟩
          have HW4 := hide hw4
          have HF4 := hide hf4
          clear hw4 hf4
          go_wp2_with fail
          refine (wnumber_any B wb K2 _ a2 5 w4 dv4 HW4.out (by omega) (by rw [List.length_append, Pk.num_len]; omega)).mono ?_
          rintro ee w5 ⟨rfl, hf5, dv5, hw5⟩
          have HW5 := hide hw5
          have HF5 := hide (HF4.out.trans hf5)
          clear hw5 hf5 HW4 HF4
          go_wp2_with fail
          refine (wnumber_any B wb K2 _ a3 4 w5 dv5 HW5.out (by omega) (by rw [List.length_append, List.length_append, Pk.num_len, Pk.num_len]; omega)).mono ?_
          rintro ee w6 ⟨rfl, hf6, dv6, hw6⟩
          have HF6 := hide (HF5.out.trans hf6)
          obtain ⟨b6, hb6⟩ : ∃ b6, b6 = bs ++ Pk.numBits a1 5 ++ Pk.numBits a2 5 ++ Pk.numBits a3 4 := ⟨_, rfl⟩
          have hb6l : b6.length ≤ 120 := by rw [hb6, List.length_append, List.length_append, List.length_append, Pk.num_len, Pk.num_len, Pk.num_len]; omega
          rw [← hb6] at hw6
          have HW6 := hide hw6
          have HB6 := hide hb6
          clear hw6 hf6 hb6 HW5 HF5 ct cl
          go_wp2_with fail
          go_loopw [57] (fun iv wi => ∃ i : Nat, i ≤ cn ∧ iv = .int .i64 i ∧ Hid (∃ dvi, Wr B wb K2 (b6 ++ Pk.firstBits tl i) wi dvi) ∧ Hid (Fr (Own B K2) w3 wi)) (fun iv _ => cn - (intOf iv).toNat)
          case atStart => exact ⟨0, Nat.zero_le _, rfl, ⟨dv6, HW6.out.same (by simp [Pk.firstBits])⟩, HF6.out⟩
          case round =>
            obtain ⟨i, hi, rfl, HWI, HFI⟩ := hrel
            have hs3w := HFI.out.size
            have hgl3 : g < w3.heap.size := HBY3.out.1
            have hE4 := HE3.out.fr HFI.out (fun _ h => own_low (by have := HGG.out; omega))
            by_cases hlt : i < cn
            · have hlti : (i : Int) < (cn : Int) := by omega
              have ct := hE4.tell i (by omega)
              have hoj := order_le i (by omega)
              have HFS := hide (first_succ tl i)
              obtain ⟨o, ho⟩ : ∃ o, o = Gz.order.getD i 0 := ⟨_, rfl⟩
              rw [← ho] at ct hoj HFS
              have cl := (HBY3.out.fr HFI.out (own_not hgK)).2 o (by rw [htl19]; exact hoj)
              rw [Nat.zero_add] at cl
              have hx7 := HTL7.out o
              obtain ⟨x, hx⟩ : ∃ x, x = tl.getD o 0 := ⟨_, rfl⟩
              rw [← hx] at cl hx7 HFS
              have hoi : (o : Int) < 19 := by omega
              have hi19 : (i : Int) < 19 := by omega
              have wx : IntKind.i64.wrap (x : Int) = x := wraps_i64 _ (by omega) (by omega)
              obtain ⟨dvi, hwi⟩ := HWI.out
              have HWJ := hide hwi
              have hfl := HLEN.out i
              clear hx ho hE4 hwi HWI
              go_wp2_with fail
              refine (wnumber_any B wb K2 _ x 3 wr dvi HWJ.out (by omega) (by rw [List.length_append, hfl]; omega)).mono ?_
              rintro ee w7 ⟨rfl, hf7, dv7, hw7⟩
              rw [List.append_assoc, ← HFS.out] at hw7
              have HW7 := hide hw7
              have HF7 := hide (HFI.out.trans hf7)
              clear hw7 hf7 HWJ HFI ct cl
              go_wp2_with fail
              refine ⟨⟨i + 1, by omega, by go_num, ⟨dv7, HW7.out⟩, HF7.out⟩, by simp [intOf]; omega⟩
            · have hie : i = cn := by omega
              subst hie
              have hlti : ¬ (i : Int) < (i : Int) := by omega
              have hwo := wordsOf_any g 0 19 tl wr (HBY3.out.fr HFI.out (own_not hgK)) HTLL.out (by omega)
              rw [htl19] at hwo
              have HWO := hide hwo
              clear hwo
              go_wp2_with fail
              refine HWO.out.mono ?_
              rintro ee w8 ⟨gw, hgwB, rfl, hgwb, hf8⟩
              obtain ⟨dvi, hwi⟩ := HWI.out
              have hgwl := lt_of hgwb
              have HW8 : Hid (Wr B wb ([gw] ++ K2) (b6 ++ Pk.firstBits tl i) w8 dvi) := hwi.more hf8 (fun k hk => by rw [List.mem_singleton.1 hk]; omega)
              obtain ⟨K3, hK3⟩ : ∃ K3, K3 = [gw] ++ K2 := ⟨_, rfl⟩
              have hgwK : gw ∈ K3 := by rw [hK3]; simp
              have hgtK3 : gt ∈ K3 := by rw [hK3]; exact List.mem_append.2 (.inr hgtK)
              have HK3 := hide hK3
              rw [← hK3] at HW8
              have HGW8 := hide hgwb
              have HF8 := hide (HFI.out.trans hf8.of_no)
              have hgtl3 : gt < w3.heap.size := by omega
              have HC8 : Hid (∀ k, k < us.length → w8.cell? ⟨gt, k * 2, none⟩ = some (.int .i64 ((us.getD k (0, 0)).1 : Nat)) ∧ w8.cell? ⟨gt, k * 2 + 1, none⟩ = some (.int .i64 ((us.getD k (0, 0)).2 : Nat))) := fun k hk => ⟨(HF8.out.cell (p := ⟨gt, _, none⟩) hgtl3 (own_not hgtK)).trans (HC3.out k hk).1, (HF8.out.cell (p := ⟨gt, _, none⟩) hgtl3 (own_not hgtK)).trans (HC3.out k hk).2⟩
              have hgtl8 : gt < w8.heap.size := Nat.lt_of_lt_of_le hgtl3 HF8.out.size
              have hwll : (words tl).length = 19 := by rw [words_length, htl19]
              obtain ⟨b8, hb8⟩ : ∃ b8, b8 = b6 ++ Pk.firstBits tl i := ⟨_, rfl⟩
              have hb8l : b8.length ≤ 200 := by rw [hb8, List.length_append, HLEN.out i]; omega
              rw [← hb8] at HW8
              have HB8 := hide hb8
              clear hK3 hgwb hwi hf8 hb8 HWO hE4
              go_wp2_with fail
              go_loopw [74] (fun jv wj => ∃ j : Nat, j ≤ n ∧ jv = .int .i64 j ∧ Hid (∃ dvj, Wr B wb K3 (b8 ++ Pk.tellBits tl (us.take j)) wj dvj) ∧ Hid (Fr (Own B K3) w8 wj)) (fun jv _ => n - (intOf jv).toNat)
              case atStart => exact ⟨0, Nat.zero_le _, rfl, ⟨dvi, HW8.out.same (by simp [Pk.tellBits])⟩, Fr.refl _ _⟩
              case round =>
                obtain ⟨j, hj, rfl, HWJ, HFJ⟩ := hrel
                by_cases hjn : j < n
                · have hjni : (j : Int) < (n : Int) := by omega
                  have hju : j < us.length := by have := HNE.out; omega
                  have c0 := (HFJ.out.cell (p := ⟨gt, j * 2, none⟩) hgtl8 (own_not hgtK3)).trans (HC8.out j hju).1
                  have c1 := (HFJ.out.cell (p := ⟨gt, j * 2 + 1, none⟩) hgtl8 (own_not hgtK3)).trans (HC8.out j hju).2
                  have hut := HTK.out (us.getD j (0, 0)) (by rw [List.getD, List.getElem?_eq_getElem hju]; exact List.getElem_mem _)
                  have HSN := hide (tell_snoc tl us j hju)
                  have hlj := tell_len HTLL.out (us.take j)
                  rw [List.length_take] at hlj
                  obtain ⟨t, ht⟩ : ∃ t, t = us.getD j (0, 0) := ⟨_, rfl⟩
                  rw [← ht] at c0 c1 hut HSN
                  have HSN : Hid (Pk.tellBits tl (us.take (j + 1)) = Pk.tellBits tl (us.take j) ++ (Pk.wbits (words tl) t.1 ++ Pk.numBits t.2 (Pk.tBits t.1))) := HSN.out
                  obtain ⟨sy, hsy⟩ : ∃ sy, sy = t.1 := ⟨_, rfl⟩
                  obtain ⟨mr, hmr⟩ : ∃ mr, mr = t.2 := ⟨_, rfl⟩
                  rw [← hsy, ← hmr] at HSN hut
                  rw [← hsy] at c0
                  rw [← hmr] at c1
                  have hbt7 : Pk.tBits sy ≤ 7 := by unfold Pk.tBits; split <;> (try split) <;> (try split) <;> omega
                  obtain ⟨wa, hwa⟩ : ∃ wa, wa = wr.alloc (.cells #[.int .i64 (sy : Nat), .int .i64 (mr : Nat)] 150) := ⟨_, rfl⟩
                  have hfa : Fr No wr wa := by rw [hwa]; exact (Fr.refl _ _).alloc _
                  have hba : wa.heap[wr.heap.size]? = some (.cells #[.int .i64 (sy : Nat), .int .i64 (mr : Nat)] 150 (0, 0)) := by rw [hwa]; exact alloc_at wr _
                  obtain ⟨ob, hob⟩ : ∃ ob, ob = wr.heap.size := ⟨_, rfl⟩
                  have a0 : (wr.alloc (.cells #[.int .i64 (sy : Nat), .int .i64 (mr : Nat)] 150)).cell? ⟨wr.heap.size, 0, none⟩ = some (.int .i64 (sy : Nat)) := by rw [← hwa, cell_of hba]; rfl
                  have HBEH := hide (behind_any sy wa (by omega))
                  obtain ⟨dvj, hwj⟩ := HWJ.out
                  have hasz : wa.heap.size = wr.heap.size + 1 := by rw [hwa, World.size_alloc]
                  have HWA4 : Hid (Wr B wb ([ob] ++ K3) (b8 ++ Pk.tellBits tl (us.take j)) wa dvj) := hwj.more hfa (fun k hk => by rw [List.mem_singleton.1 hk, hob, hasz]; omega)
                  obtain ⟨K4, hK4⟩ : ∃ K4, K4 = [ob] ++ K3 := ⟨_, rfl⟩
                  have hobK : ob ∈ K4 := by rw [hK4]; simp
                  have hgwK4 : gw ∈ K4 := by rw [hK4]; exact List.mem_append.2 (.inr hgwK)
                  have HK4 := hide hK4
                  rw [← hK4] at HWA4
                  have HBA := hide hba
                  rw [← hob] at HBA
                  have HFA := hide (HFJ.out.trans hfa.of_no)
                  have HGWA := hide (HFA.out.at HGW8.out (own_not hgwK))
                  have HWAE := hide hwa
                  obtain ⟨bj, hbj⟩ : ∃ bj, bj = b8 ++ Pk.tellBits tl (us.take j) := ⟨_, rfl⟩
                  have hbjl : bj.length ≤ 10000 := by rw [hbj, List.length_append]; omega
                  rw [← hbj] at HWA4
                  have HBJ := hide hbj
                  have HOB := hide hob
                  clear hwa hfa hba hwj hasz hK4 hbj hlj hsy hmr ht HWJ hob
                  go_wp2_with fail
                  rw [← HWAE.out]
                  refine HBEH.out.mono ?_
                  rintro ee W1 ⟨rfl, hW1⟩
                  have hW1 := hW1.symm
                  subst hW1
                  rw [← HOB.out]
                  rw [runBits_eq]
                  clear a0
                  have b0 : wa.cell? ⟨ob, 0, none⟩ = some (.int .i64 (sy : Nat)) := by rw [cell_of HBA.out]; rfl
                  obtain ⟨q0, q1⟩ := word_cells HGWA.out sy (by omega)
                  have hq2 := (Pk.words_get tl sy).resolve_right (fun h => h HTLL.out)
                  have HWB : Hid (Pk.wbits (words tl) sy = Pk.wordBits ((words tl).getD sy (0, 0)).1 ((words tl).getD sy (0, 0)).2) := rfl
                  obtain ⟨wo, hwo⟩ : ∃ wo, wo = (words tl).getD sy (0, 0) := ⟨_, rfl⟩
                  rw [← hwo] at q0 q1 hq2 HWB
                  clear hwo
                  have hsyi : (sy : Int) < 19 := by omega
                  obtain ⟨bt, hbt⟩ : ∃ bt, bt = Pk.tBits sy := ⟨_, rfl⟩
                  rw [← hbt] at HSN hbt7 ⊢
                  clear hbt
                  go_wp2_with fail
                  refine (wword_any B wb K4 _ wo.1 wo.2 wa dvj HWA4.out (by omega) (by omega)).mono ?_
                  rintro ee w9 ⟨rfl, hf9, dv9, hw9⟩
                  rw [← HWB.out] at hw9
                  have HB9 := hide (hf9.at HBA.out (own_not hobK))
                  have hf9' : Fr (Own B K3) wa w9 := by rw [HK4.out] at hf9; exact hf9.lessK
                  have HF9 := hide (HFA.out.trans hf9')
                  have HW9 := hide hw9
                  have b1 : w9.cell? ⟨ob, 1, none⟩ = some (.int .i64 (mr : Nat)) := by rw [cell_of HB9.out]; rfl
                  have hwbl := Pk.wbits_len tl HTLL.out sy
                  clear hw9 hf9 hf9' q0 q1 b0 HBEH HWA4 HFA HGWA
                  go_wp2_with fail
                  refine (wnumber_any B wb K4 _ mr bt w9 dv9 HW9.out (by omega) (by rw [List.length_append]; omega)).mono ?_
                  rintro ee w10 ⟨rfl, hf10, dv10, hw10⟩
                  have hf10' : Fr (Own B K3) w9 w10 := by rw [HK4.out] at hf10; exact hf10.lessK
                  have HF10 := hide (HF9.out.trans hf10')
                  have HW10 : Hid (Wr B wb K3 (b8 ++ Pk.tellBits tl (us.take (j + 1))) w10 dv10) := by
                    unfold Hid
                    rw [HK4.out] at hw10
                    refine hw10.less.same ?_
                    rw [HSN.out, HBJ.out]
                    simp only [List.append_assoc]
                  clear hw10 hf10 hf10' HW9 HF9 HB9 b1
                  go_wp2_with fail
                  refine ⟨⟨j + 1, by omega, by go_num, ⟨dv10, HW10.out⟩, HF10.out⟩, by simp [intOf]; omega⟩
                · have hje : j = n := by omega
                  subst hje
                  have hjni : ¬ (j : Int) < (j : Int) := by omega
                  obtain ⟨dvj, hwj⟩ := HWJ.out
                  have HDN : Hid (HeadP B wb K bs ls lf w (.returned (.tuple #[])) wr) := by
                    refine ⟨tl, by rw [← HUS.out]; exact HBST.out, rfl, ?_, dvj, ?_⟩
                    · have h1 := HFJ.out
                      rw [HK3.out] at h1
                      have h2 := HF8.out.trans h1.lessK
                      rw [HK2.out] at h2
                      exact HF3.out.of_no.trans h2.lessK
                    · rw [HK3.out, HK2.out] at hwj
                      refine hwj.less.less.same ?_
                      rw [HHB.out tl, HB8.out, HB6.out, HCN.out, List.take_of_length_le (by have := HNE.out; omega), HA.out.1, HA.out.2.1, HA.out.2.2]
                      simp only [List.append_assoc]
                  go_wp2
                  go_end0
                  exact HDN.out
  · have hmxi : ¬ (1 : Int) < (u2 : Int) := by omega
    have hnu : nd = 1 := by omega
    subst hnu
    clear hndu
    go_enter Tryz.func51, Tryz.ntmps51
    go_wp2_with fail
    refine HU1.out.mono ?_
    rintro ee W1 ⟨rfl, hW1⟩
    have hW1 := hW1.symm
    subst hW1
    go_wp2_with fail
    refine HU2.out.mono ?_
    rintro ee W1 ⟨rfl, hW1⟩
    have hW1 := hW1.symm
    subst hW1
    go_wp2_with fail
    refine HTE.out.mono ?_
    rintro ee w1 ⟨tv, rfl, hr1, hf1⟩
    have HLT := hide (lensTelling_any w.heap.size tv us w1 hr1 (by omega) (fun t ht => (HTK.out t ht).1))
    obtain ⟨ao, tcap, htv, hcells⟩ := wd_cells hr1
    subst htv
    have HF1 := hide hf1
    have HC1 := hide hcells
    have hs1 := hf1.size
    obtain ⟨n, hne⟩ : ∃ n, n = us.length := ⟨_, rfl⟩
    rw [← hne] at HLT husl hpos ⊢
    have HNE := hide hne
    clear hr1 hf1 hcells hne HU1 HU2 HTE
    go_wp2_with fail
    refine HLT.out.mono ?_
    rintro ee w2 ⟨g, X, hg, rfl, hgb, hX, hSd, hf2⟩
    have hcl : (Pk.telC us).length = 19 := by simp [Pk.telC]
    have hbst : Bst (Pk.telC us) 7 (lens (Pk.telC us) X 7) := bst_lens hX hSd (by omega) (by rw [hcl]; decide)
    obtain ⟨tl, htl⟩ : ∃ tl, tl = lens (Pk.telC us) X 7 := ⟨_, rfl⟩
    rw [← htl] at hgb hbst
    have htl19 : tl.length = 19 := by rw [hbst.len, hcl]
    have htl7 : ∀ i, tl.getD i 0 ≤ 7 := fun i => hbst.le i
    have HTLL : Hid (Lens tl) := fun i _ => by have := htl7 i; omega
    have HBST := hide hbst
    have HTL7 := hide htl7
    obtain ⟨gt, hao, hgtB, hgtl, _, _⟩ := HC1.out 0 (by have := HNE.out; omega)
    subst hao
    have HF2 := hide (HF1.out.trans hf2)
    have hgtl2 : gt < w2.heap.size := Nat.lt_of_lt_of_le hgtl hf2.size
    have HC2 : Hid (∀ k, k < us.length → w2.cell? ⟨gt, k * 2, none⟩ = some (.int .i64 ((us.getD k (0, 0)).1 : Nat)) ∧ w2.cell? ⟨gt, k * 2 + 1, none⟩ = some (.int .i64 ((us.getD k (0, 0)).2 : Nat))) := fun k hk => by
      obtain ⟨g', e1, _, _, c0, c1⟩ := HC1.out k hk
      injection e1 with e1
      injection e1 with e1
      subst e1
      exact ⟨(hf2.cell (p := ⟨gt, _, none⟩) hgtl (no_no _)).trans c0, (hf2.cell (p := ⟨gt, _, none⟩) hgtl (no_no _)).trans c1⟩
    have HGB := hide hgb
    have hgl := lt_of hgb
    have hgw : w.heap.size ≤ g := by omega
    have HW2 : Hid (Wr B wb ([g, gt] ++ K) bs w2 dv) := HW.out.more HF2.out (fun k hk => by
      rcases List.mem_cons.1 hk with rfl | hk
      · omega
      · rw [List.mem_singleton.1 hk]; omega)
    have HE2 : Hid (PkEnv w2) := HEE.out.fr HF2.out (fun _ _ => no_no _)
    obtain ⟨K2, hK2⟩ : ∃ K2, K2 = [g, gt] ++ K := ⟨_, rfl⟩
    have hgK : g ∈ K2 := by rw [hK2]; simp
    have hgtK : gt ∈ K2 := by rw [hK2]; simp
    have HK2 := hide hK2
    rw [← hK2] at HW2
    rw [hcl]
    clear hK2 hf2 hgb hX hSd htl hcl hbst HLT HC1 HF1 HW HEE htl7
    have HBY2 : Hid (Bys w2 g 0 tl) := ⟨hgl, fun i hi => by rw [Nat.zero_add, cell_of HGB.out, uvs_get hi]⟩
    go_wp2_with fail
    go_loopw [8] (fun cv wr => ∃ k : Nat, 4 ≤ k ∧ k ≤ 19 ∧ cv = .int .i64 k ∧ Hid (Pk.cntTo tl 19 = Pk.cntTo tl k) ∧ Hid (Fr No w2 wr)) (fun cv _ => (intOf cv).toNat)
    case atStart => exact ⟨19, by omega, by omega, rfl, rfl, Fr.refl _ _⟩
    case round =>
      obtain ⟨k, hk4, hk19, rfl, HK, HFC⟩ := hrel
      have HDN : Hid (∀ j, k = j + 1 → Pk.cntTo tl k = if 4 < j + 1 ∧ tl.getD (Gz.order.getD j 0) 0 = 0 then Pk.cntTo tl j else j + 1) := fun j e => by subst e; rfl
      have hE3 := HE2.out.fr HFC.out (fun _ _ => no_no _)
      by_cases hgo : 4 < k ∧ tl.getD (Gz.order.getD (k - 1) 0) 0 = 0
      · obtain ⟨j, rfl⟩ : ∃ j, k = j + 1 := ⟨k - 1, by omega⟩
        rw [show j + 1 - 1 = j by omega] at hgo
        have ct := hE3.tell j (by omega)
        have hoj := order_le j (by omega)
        obtain ⟨o, ho⟩ : ∃ o, o = Gz.order.getD j 0 := ⟨_, rfl⟩
        rw [← ho] at ct hoj hgo
        have cl := (HBY2.out.fr HFC.out (no_no _)).2 o (by rw [htl19]; exact hoj)
        rw [Nat.zero_add, hgo.2] at cl
        have hoi : (o : Int) < 19 := by omega
        have hji : ((j + 1 : Nat) : Int) - 1 = (j : Int) := by omega
        have hj19 : (j : Int) < 19 := by omega
        have hj4 : (4 : Int) < ((j + 1 : Nat) : Int) := by omega
        have HNX : Hid (Pk.cntTo tl 19 = Pk.cntTo tl j) := by unfold Hid; rw [HK.out, HDN.out j rfl, if_pos ⟨by omega, by rw [← ho]; exact hgo.2⟩]
        have hjk4 : 4 ≤ j := by omega
        clear hgo ho hE3 HDN
        go_wp2_with fail
        refine ⟨⟨j, hjk4, by omega, by go_num, HNX.out, HFC.out⟩, by simp [intOf]⟩
      · obtain ⟨j, rfl⟩ : ∃ j, k = j + 1 := ⟨k - 1, by omega⟩
        rw [show j + 1 - 1 = j by omega] at hgo
        have HCN : Hid (Pk.cntTo tl 19 = j + 1) := by
          unfold Hid
          rw [HK.out, HDN.out j rfl]
          by_cases h4 : 4 < j + 1
          · rw [if_neg (fun h => hgo h)]
          · rw [if_neg (fun h => hgo h)]
        obtain ⟨cn, hcn⟩ : ∃ cn, cn = j + 1 := ⟨_, rfl⟩
        have hs2r := HFC.out.size
        obtain ⟨w3, hw3⟩ : ∃ w3, w3 = wr := ⟨_, rfl⟩
        subst hw3
        have HW3 := hide (HW2.out.no HFC.out)
        have HE3 := hide hE3
        have HBY3 := hide (HBY2.out.fr HFC.out (no_no _))
        have HC3 : Hid (∀ k, k < us.length → w3.cell? ⟨gt, k * 2, none⟩ = some (.int .i64 ((us.getD k (0, 0)).1 : Nat)) ∧ w3.cell? ⟨gt, k * 2 + 1, none⟩ = some (.int .i64 ((us.getD k (0, 0)).2 : Nat))) := fun k hk => ⟨(HFC.out.cell (p := ⟨gt, _, none⟩) hgtl2 (no_no _)).trans (HC2.out k hk).1, (HFC.out.cell (p := ⟨gt, _, none⟩) hgtl2 (no_no _)).trans (HC2.out k hk).2⟩
        have HF3 := hide (HF2.out.trans HFC.out)
        have ct := hE3.tell j (by omega)
        have hoj := order_le j (by omega)
        obtain ⟨o, ho⟩ : ∃ o, o = Gz.order.getD j 0 := ⟨_, rfl⟩
        rw [← ho] at ct hoj hgo
        have cl := HBY3.out.2 o (by rw [htl19]; exact hoj)
        rw [Nat.zero_add] at cl
        obtain ⟨x, hx⟩ : ∃ x, x = tl.getD o 0 := ⟨_, rfl⟩
        rw [← hx] at cl hgo
        have hoi : (o : Int) < 19 := by omega
        have hji : ((j + 1 : Nat) : Int) - 1 = (j : Int) := by omega
        have hj19 : (j : Int) < 19 := by omega
        rw [← hcn] at HCN hk4 hk19 hji ⊢
        have HLEN : Hid (∀ m, (Pk.firstBits tl m).length = 3 * m) := first_len tl
        obtain ⟨a1, ha1⟩ : ∃ a1, a1 = ns - 257 := ⟨_, rfl⟩
        obtain ⟨a3, ha3⟩ : ∃ a3, a3 = cn - 4 := ⟨_, rfl⟩
        have i1 : (ns : Int) - 257 = (a1 : Int) := by omega
        have i3 : (cn : Int) - 4 = (a3 : Int) := by omega
        have wa1 : IntKind.i64.wrap (a1 : Int) = a1 := wraps_i64 _ (by omega) (by omega)
        have wa3 : IntKind.i64.wrap (a3 : Int) = a3 := wraps_i64 _ (by omega) (by omega)
        have HA := hide (And.intro ha1 ha3)
        have HJ := hide hcn
        have hcn0 : cn ≤ 19 := hk19
        have hdec : (4 : Int) < (cn : Int) → ((x : Int) == 0) = false := fun h => by
          have : ¬ x = 0 := fun e => hgo ⟨by omega, e⟩
          simp
          omega
        clear hx ho ha1 ha3 hcn hE3 HDN HK hgo
        by_cases h4 : (4 : Int) < (cn : Int)
        · have hx0 := hdec h4
          clear hdec
          go_wp2_with fail
          refine (wnumber_any B wb K2 bs a1 5 w3 dv HW3.out (by omega) (by omega)).mono ?_
          rintro ee w4 ⟨rfl, hf4, dv4, hw4⟩
          have HW4 := hide hw4
          have HF4 := hide hf4
          clear hw4 hf4
          go_wp2_with fail
          refine (wnumber_any B wb K2 _ 0 5 w4 dv4 HW4.out (by omega) (by rw [List.length_append, Pk.num_len]; omega)).mono ?_
          rintro ee w5 ⟨rfl, hf5, dv5, hw5⟩
          have HW5 := hide hw5
          have HF5 := hide (HF4.out.trans hf5)
          clear hw5 hf5 HW4 HF4
          go_wp2_with fail
          refine (wnumber_any B wb K2 _ a3 4 w5 dv5 HW5.out (by omega) (by rw [List.length_append, List.length_append, Pk.num_len, Pk.num_len]; omega)).mono ?_
          rintro ee w6 ⟨rfl, hf6, dv6, hw6⟩
          have HF6 := hide (HF5.out.trans hf6)
          obtain ⟨b6, hb6⟩ : ∃ b6, b6 = bs ++ Pk.numBits a1 5 ++ Pk.numBits 0 5 ++ Pk.numBits a3 4 := ⟨_, rfl⟩
          have hb6l : b6.length ≤ 120 := by rw [hb6, List.length_append, List.length_append, List.length_append, Pk.num_len, Pk.num_len, Pk.num_len]; omega
          rw [← hb6] at hw6
          have HW6 := hide hw6
          have HB6 := hide hb6
          clear hw6 hf6 hb6 HW5 HF5 ct cl
          go_wp2_with fail
          go_loopw [57] (fun iv wi => ∃ i : Nat, i ≤ cn ∧ iv = .int .i64 i ∧ Hid (∃ dvi, Wr B wb K2 (b6 ++ Pk.firstBits tl i) wi dvi) ∧ Hid (Fr (Own B K2) w3 wi)) (fun iv _ => cn - (intOf iv).toNat)
          case atStart => exact ⟨0, Nat.zero_le _, rfl, ⟨dv6, HW6.out.same (by simp [Pk.firstBits])⟩, HF6.out⟩
          case round =>
            obtain ⟨i, hi, rfl, HWI, HFI⟩ := hrel
            have hs3w := HFI.out.size
            have hgl3 : g < w3.heap.size := HBY3.out.1
            have hE4 := HE3.out.fr HFI.out (fun _ h => own_low (by have := HGG.out; omega))
            by_cases hlt : i < cn
            · have hlti : (i : Int) < (cn : Int) := by omega
              have ct := hE4.tell i (by omega)
              have hoj := order_le i (by omega)
              have HFS := hide (first_succ tl i)
              obtain ⟨o, ho⟩ : ∃ o, o = Gz.order.getD i 0 := ⟨_, rfl⟩
              rw [← ho] at ct hoj HFS
              have cl := (HBY3.out.fr HFI.out (own_not hgK)).2 o (by rw [htl19]; exact hoj)
              rw [Nat.zero_add] at cl
              have hx7 := HTL7.out o
              obtain ⟨x, hx⟩ : ∃ x, x = tl.getD o 0 := ⟨_, rfl⟩
              rw [← hx] at cl hx7 HFS
              have hoi : (o : Int) < 19 := by omega
              have hi19 : (i : Int) < 19 := by omega
              have wx : IntKind.i64.wrap (x : Int) = x := wraps_i64 _ (by omega) (by omega)
              obtain ⟨dvi, hwi⟩ := HWI.out
              have HWJ := hide hwi
              have hfl := HLEN.out i
              clear hx ho hE4 hwi HWI
              go_wp2_with fail
              refine (wnumber_any B wb K2 _ x 3 wr dvi HWJ.out (by omega) (by rw [List.length_append, hfl]; omega)).mono ?_
              rintro ee w7 ⟨rfl, hf7, dv7, hw7⟩
              rw [List.append_assoc, ← HFS.out] at hw7
              have HW7 := hide hw7
              have HF7 := hide (HFI.out.trans hf7)
              clear hw7 hf7 HWJ HFI ct cl
              go_wp2_with fail
              refine ⟨⟨i + 1, by omega, by go_num, ⟨dv7, HW7.out⟩, HF7.out⟩, by simp [intOf]; omega⟩
            · have hie : i = cn := by omega
              subst hie
              have hlti : ¬ (i : Int) < (i : Int) := by omega
              have hwo := wordsOf_any g 0 19 tl wr (HBY3.out.fr HFI.out (own_not hgK)) HTLL.out (by omega)
              rw [htl19] at hwo
              have HWO := hide hwo
              clear hwo
              go_wp2_with fail
              refine HWO.out.mono ?_
              rintro ee w8 ⟨gw, hgwB, rfl, hgwb, hf8⟩
              obtain ⟨dvi, hwi⟩ := HWI.out
              have hgwl := lt_of hgwb
              have HW8 : Hid (Wr B wb ([gw] ++ K2) (b6 ++ Pk.firstBits tl i) w8 dvi) := hwi.more hf8 (fun k hk => by rw [List.mem_singleton.1 hk]; omega)
              obtain ⟨K3, hK3⟩ : ∃ K3, K3 = [gw] ++ K2 := ⟨_, rfl⟩
              have hgwK : gw ∈ K3 := by rw [hK3]; simp
              have hgtK3 : gt ∈ K3 := by rw [hK3]; exact List.mem_append.2 (.inr hgtK)
              have HK3 := hide hK3
              rw [← hK3] at HW8
              have HGW8 := hide hgwb
              have HF8 := hide (HFI.out.trans hf8.of_no)
              have hgtl3 : gt < w3.heap.size := by omega
              have HC8 : Hid (∀ k, k < us.length → w8.cell? ⟨gt, k * 2, none⟩ = some (.int .i64 ((us.getD k (0, 0)).1 : Nat)) ∧ w8.cell? ⟨gt, k * 2 + 1, none⟩ = some (.int .i64 ((us.getD k (0, 0)).2 : Nat))) := fun k hk => ⟨(HF8.out.cell (p := ⟨gt, _, none⟩) hgtl3 (own_not hgtK)).trans (HC3.out k hk).1, (HF8.out.cell (p := ⟨gt, _, none⟩) hgtl3 (own_not hgtK)).trans (HC3.out k hk).2⟩
              have hgtl8 : gt < w8.heap.size := Nat.lt_of_lt_of_le hgtl3 HF8.out.size
              have hwll : (words tl).length = 19 := by rw [words_length, htl19]
              obtain ⟨b8, hb8⟩ : ∃ b8, b8 = b6 ++ Pk.firstBits tl i := ⟨_, rfl⟩
              have hb8l : b8.length ≤ 200 := by rw [hb8, List.length_append, HLEN.out i]; omega
              rw [← hb8] at HW8
              have HB8 := hide hb8
              clear hK3 hgwb hwi hf8 hb8 HWO hE4
              go_wp2_with fail
              go_loopw [74] (fun jv wj => ∃ j : Nat, j ≤ n ∧ jv = .int .i64 j ∧ Hid (∃ dvj, Wr B wb K3 (b8 ++ Pk.tellBits tl (us.take j)) wj dvj) ∧ Hid (Fr (Own B K3) w8 wj)) (fun jv _ => n - (intOf jv).toNat)
              case atStart => exact ⟨0, Nat.zero_le _, rfl, ⟨dvi, HW8.out.same (by simp [Pk.tellBits])⟩, Fr.refl _ _⟩
              case round =>
                obtain ⟨j, hj, rfl, HWJ, HFJ⟩ := hrel
                by_cases hjn : j < n
                · have hjni : (j : Int) < (n : Int) := by omega
                  have hju : j < us.length := by have := HNE.out; omega
                  have c0 := (HFJ.out.cell (p := ⟨gt, j * 2, none⟩) hgtl8 (own_not hgtK3)).trans (HC8.out j hju).1
                  have c1 := (HFJ.out.cell (p := ⟨gt, j * 2 + 1, none⟩) hgtl8 (own_not hgtK3)).trans (HC8.out j hju).2
                  have hut := HTK.out (us.getD j (0, 0)) (by rw [List.getD, List.getElem?_eq_getElem hju]; exact List.getElem_mem _)
                  have HSN := hide (tell_snoc tl us j hju)
                  have hlj := tell_len HTLL.out (us.take j)
                  rw [List.length_take] at hlj
                  obtain ⟨t, ht⟩ : ∃ t, t = us.getD j (0, 0) := ⟨_, rfl⟩
                  rw [← ht] at c0 c1 hut HSN
                  have HSN : Hid (Pk.tellBits tl (us.take (j + 1)) = Pk.tellBits tl (us.take j) ++ (Pk.wbits (words tl) t.1 ++ Pk.numBits t.2 (Pk.tBits t.1))) := HSN.out
                  obtain ⟨sy, hsy⟩ : ∃ sy, sy = t.1 := ⟨_, rfl⟩
                  obtain ⟨mr, hmr⟩ : ∃ mr, mr = t.2 := ⟨_, rfl⟩
                  rw [← hsy, ← hmr] at HSN hut
                  rw [← hsy] at c0
                  rw [← hmr] at c1
                  have hbt7 : Pk.tBits sy ≤ 7 := by unfold Pk.tBits; split <;> (try split) <;> (try split) <;> omega
                  obtain ⟨wa, hwa⟩ : ∃ wa, wa = wr.alloc (.cells #[.int .i64 (sy : Nat), .int .i64 (mr : Nat)] 150) := ⟨_, rfl⟩
                  have hfa : Fr No wr wa := by rw [hwa]; exact (Fr.refl _ _).alloc _
                  have hba : wa.heap[wr.heap.size]? = some (.cells #[.int .i64 (sy : Nat), .int .i64 (mr : Nat)] 150 (0, 0)) := by rw [hwa]; exact alloc_at wr _
                  obtain ⟨ob, hob⟩ : ∃ ob, ob = wr.heap.size := ⟨_, rfl⟩
                  have a0 : (wr.alloc (.cells #[.int .i64 (sy : Nat), .int .i64 (mr : Nat)] 150)).cell? ⟨wr.heap.size, 0, none⟩ = some (.int .i64 (sy : Nat)) := by rw [← hwa, cell_of hba]; rfl
                  have HBEH := hide (behind_any sy wa (by omega))
                  obtain ⟨dvj, hwj⟩ := HWJ.out
                  have hasz : wa.heap.size = wr.heap.size + 1 := by rw [hwa, World.size_alloc]
                  have HWA4 : Hid (Wr B wb ([ob] ++ K3) (b8 ++ Pk.tellBits tl (us.take j)) wa dvj) := hwj.more hfa (fun k hk => by rw [List.mem_singleton.1 hk, hob, hasz]; omega)
                  obtain ⟨K4, hK4⟩ : ∃ K4, K4 = [ob] ++ K3 := ⟨_, rfl⟩
                  have hobK : ob ∈ K4 := by rw [hK4]; simp
                  have hgwK4 : gw ∈ K4 := by rw [hK4]; exact List.mem_append.2 (.inr hgwK)
                  have HK4 := hide hK4
                  rw [← hK4] at HWA4
                  have HBA := hide hba
                  rw [← hob] at HBA
                  have HFA := hide (HFJ.out.trans hfa.of_no)
                  have HGWA := hide (HFA.out.at HGW8.out (own_not hgwK))
                  have HWAE := hide hwa
                  obtain ⟨bj, hbj⟩ : ∃ bj, bj = b8 ++ Pk.tellBits tl (us.take j) := ⟨_, rfl⟩
                  have hbjl : bj.length ≤ 10000 := by rw [hbj, List.length_append]; omega
                  rw [← hbj] at HWA4
                  have HBJ := hide hbj
                  have HOB := hide hob
                  clear hwa hfa hba hwj hasz hK4 hbj hlj hsy hmr ht HWJ hob
                  go_wp2_with fail
                  rw [← HWAE.out]
                  refine HBEH.out.mono ?_
                  rintro ee W1 ⟨rfl, hW1⟩
                  have hW1 := hW1.symm
                  subst hW1
                  rw [← HOB.out]
                  rw [runBits_eq]
                  clear a0
                  have b0 : wa.cell? ⟨ob, 0, none⟩ = some (.int .i64 (sy : Nat)) := by rw [cell_of HBA.out]; rfl
                  obtain ⟨q0, q1⟩ := word_cells HGWA.out sy (by omega)
                  have hq2 := (Pk.words_get tl sy).resolve_right (fun h => h HTLL.out)
                  have HWB : Hid (Pk.wbits (words tl) sy = Pk.wordBits ((words tl).getD sy (0, 0)).1 ((words tl).getD sy (0, 0)).2) := rfl
                  obtain ⟨wo, hwo⟩ : ∃ wo, wo = (words tl).getD sy (0, 0) := ⟨_, rfl⟩
                  rw [← hwo] at q0 q1 hq2 HWB
                  clear hwo
                  have hsyi : (sy : Int) < 19 := by omega
                  obtain ⟨bt, hbt⟩ : ∃ bt, bt = Pk.tBits sy := ⟨_, rfl⟩
                  rw [← hbt] at HSN hbt7 ⊢
                  clear hbt
                  go_wp2_with fail
                  refine (wword_any B wb K4 _ wo.1 wo.2 wa dvj HWA4.out (by omega) (by omega)).mono ?_
                  rintro ee w9 ⟨rfl, hf9, dv9, hw9⟩
                  rw [← HWB.out] at hw9
                  have HB9 := hide (hf9.at HBA.out (own_not hobK))
                  have hf9' : Fr (Own B K3) wa w9 := by rw [HK4.out] at hf9; exact hf9.lessK
                  have HF9 := hide (HFA.out.trans hf9')
                  have HW9 := hide hw9
                  have b1 : w9.cell? ⟨ob, 1, none⟩ = some (.int .i64 (mr : Nat)) := by rw [cell_of HB9.out]; rfl
                  have hwbl := Pk.wbits_len tl HTLL.out sy
                  clear hw9 hf9 hf9' q0 q1 b0 HBEH HWA4 HFA HGWA
                  go_wp2_with fail
                  refine (wnumber_any B wb K4 _ mr bt w9 dv9 HW9.out (by omega) (by rw [List.length_append]; omega)).mono ?_
                  rintro ee w10 ⟨rfl, hf10, dv10, hw10⟩
                  have hf10' : Fr (Own B K3) w9 w10 := by rw [HK4.out] at hf10; exact hf10.lessK
                  have HF10 := hide (HF9.out.trans hf10')
                  have HW10 : Hid (Wr B wb K3 (b8 ++ Pk.tellBits tl (us.take (j + 1))) w10 dv10) := by
                    unfold Hid
                    rw [HK4.out] at hw10
                    refine hw10.less.same ?_
                    rw [HSN.out, HBJ.out]
                    simp only [List.append_assoc]
                  clear hw10 hf10 hf10' HW9 HF9 HB9 b1
                  go_wp2_with fail
                  refine ⟨⟨j + 1, by omega, by go_num, ⟨dv10, HW10.out⟩, HF10.out⟩, by simp [intOf]; omega⟩
                · have hje : j = n := by omega
                  subst hje
                  have hjni : ¬ (j : Int) < (j : Int) := by omega
                  obtain ⟨dvj, hwj⟩ := HWJ.out
                  have HDN : Hid (HeadP B wb K bs ls lf w (.returned (.tuple #[])) wr) := by
                    refine ⟨tl, by rw [← HUS.out]; exact HBST.out, rfl, ?_, dvj, ?_⟩
                    · have h1 := HFJ.out
                      rw [HK3.out] at h1
                      have h2 := HF8.out.trans h1.lessK
                      rw [HK2.out] at h2
                      exact HF3.out.of_no.trans h2.lessK
                    · rw [HK3.out, HK2.out] at hwj
                      refine hwj.less.less.same ?_
                      rw [HHB.out tl, HB8.out, HB6.out, HCN.out, List.take_of_length_le (by have := HNE.out; omega), HA.out.1, HA.out.2]
                      simp only [List.append_assoc]
                  go_wp2
                  go_end0
                  exact HDN.out
        · clear hdec
          go_wp2_with fail
          refine (wnumber_any B wb K2 bs a1 5 w3 dv HW3.out (by omega) (by omega)).mono ?_
          rintro ee w4 ⟨rfl, hf4, dv4, hw4⟩
          have HW4 := hide hw4
          have HF4 := hide hf4
          clear hw4 hf4
          go_wp2_with fail
          refine (wnumber_any B wb K2 _ 0 5 w4 dv4 HW4.out (by omega) (by rw [List.length_append, Pk.num_len]; omega)).mono ?_
          rintro ee w5 ⟨rfl, hf5, dv5, hw5⟩
          have HW5 := hide hw5
          have HF5 := hide (HF4.out.trans hf5)
          clear hw5 hf5 HW4 HF4
          go_wp2_with fail
          refine (wnumber_any B wb K2 _ a3 4 w5 dv5 HW5.out (by omega) (by rw [List.length_append, List.length_append, Pk.num_len, Pk.num_len]; omega)).mono ?_
          rintro ee w6 ⟨rfl, hf6, dv6, hw6⟩
          have HF6 := hide (HF5.out.trans hf6)
          obtain ⟨b6, hb6⟩ : ∃ b6, b6 = bs ++ Pk.numBits a1 5 ++ Pk.numBits 0 5 ++ Pk.numBits a3 4 := ⟨_, rfl⟩
          have hb6l : b6.length ≤ 120 := by rw [hb6, List.length_append, List.length_append, List.length_append, Pk.num_len, Pk.num_len, Pk.num_len]; omega
          rw [← hb6] at hw6
          have HW6 := hide hw6
          have HB6 := hide hb6
          clear hw6 hf6 hb6 HW5 HF5 ct cl
          go_wp2_with fail
          go_loopw [57] (fun iv wi => ∃ i : Nat, i ≤ cn ∧ iv = .int .i64 i ∧ Hid (∃ dvi, Wr B wb K2 (b6 ++ Pk.firstBits tl i) wi dvi) ∧ Hid (Fr (Own B K2) w3 wi)) (fun iv _ => cn - (intOf iv).toNat)
          case atStart => exact ⟨0, Nat.zero_le _, rfl, ⟨dv6, HW6.out.same (by simp [Pk.firstBits])⟩, HF6.out⟩
          case round =>
            obtain ⟨i, hi, rfl, HWI, HFI⟩ := hrel
            have hs3w := HFI.out.size
            have hgl3 : g < w3.heap.size := HBY3.out.1
            have hE4 := HE3.out.fr HFI.out (fun _ h => own_low (by have := HGG.out; omega))
            by_cases hlt : i < cn
            · have hlti : (i : Int) < (cn : Int) := by omega
              have ct := hE4.tell i (by omega)
              have hoj := order_le i (by omega)
              have HFS := hide (first_succ tl i)
              obtain ⟨o, ho⟩ : ∃ o, o = Gz.order.getD i 0 := ⟨_, rfl⟩
              rw [← ho] at ct hoj HFS
              have cl := (HBY3.out.fr HFI.out (own_not hgK)).2 o (by rw [htl19]; exact hoj)
              rw [Nat.zero_add] at cl
              have hx7 := HTL7.out o
              obtain ⟨x, hx⟩ : ∃ x, x = tl.getD o 0 := ⟨_, rfl⟩
              rw [← hx] at cl hx7 HFS
              have hoi : (o : Int) < 19 := by omega
              have hi19 : (i : Int) < 19 := by omega
              have wx : IntKind.i64.wrap (x : Int) = x := wraps_i64 _ (by omega) (by omega)
              obtain ⟨dvi, hwi⟩ := HWI.out
              have HWJ := hide hwi
              have hfl := HLEN.out i
              clear hx ho hE4 hwi HWI
              go_wp2_with fail
              refine (wnumber_any B wb K2 _ x 3 wr dvi HWJ.out (by omega) (by rw [List.length_append, hfl]; omega)).mono ?_
              rintro ee w7 ⟨rfl, hf7, dv7, hw7⟩
              rw [List.append_assoc, ← HFS.out] at hw7
              have HW7 := hide hw7
              have HF7 := hide (HFI.out.trans hf7)
              clear hw7 hf7 HWJ HFI ct cl
              go_wp2_with fail
              refine ⟨⟨i + 1, by omega, by go_num, ⟨dv7, HW7.out⟩, HF7.out⟩, by simp [intOf]; omega⟩
            · have hie : i = cn := by omega
              subst hie
              have hlti : ¬ (i : Int) < (i : Int) := by omega
              have hwo := wordsOf_any g 0 19 tl wr (HBY3.out.fr HFI.out (own_not hgK)) HTLL.out (by omega)
              rw [htl19] at hwo
              have HWO := hide hwo
              clear hwo
              go_wp2_with fail
              refine HWO.out.mono ?_
              rintro ee w8 ⟨gw, hgwB, rfl, hgwb, hf8⟩
              obtain ⟨dvi, hwi⟩ := HWI.out
              have hgwl := lt_of hgwb
              have HW8 : Hid (Wr B wb ([gw] ++ K2) (b6 ++ Pk.firstBits tl i) w8 dvi) := hwi.more hf8 (fun k hk => by rw [List.mem_singleton.1 hk]; omega)
              obtain ⟨K3, hK3⟩ : ∃ K3, K3 = [gw] ++ K2 := ⟨_, rfl⟩
              have hgwK : gw ∈ K3 := by rw [hK3]; simp
              have hgtK3 : gt ∈ K3 := by rw [hK3]; exact List.mem_append.2 (.inr hgtK)
              have HK3 := hide hK3
              rw [← hK3] at HW8
              have HGW8 := hide hgwb
              have HF8 := hide (HFI.out.trans hf8.of_no)
              have hgtl3 : gt < w3.heap.size := by omega
              have HC8 : Hid (∀ k, k < us.length → w8.cell? ⟨gt, k * 2, none⟩ = some (.int .i64 ((us.getD k (0, 0)).1 : Nat)) ∧ w8.cell? ⟨gt, k * 2 + 1, none⟩ = some (.int .i64 ((us.getD k (0, 0)).2 : Nat))) := fun k hk => ⟨(HF8.out.cell (p := ⟨gt, _, none⟩) hgtl3 (own_not hgtK)).trans (HC3.out k hk).1, (HF8.out.cell (p := ⟨gt, _, none⟩) hgtl3 (own_not hgtK)).trans (HC3.out k hk).2⟩
              have hgtl8 : gt < w8.heap.size := Nat.lt_of_lt_of_le hgtl3 HF8.out.size
              have hwll : (words tl).length = 19 := by rw [words_length, htl19]
              obtain ⟨b8, hb8⟩ : ∃ b8, b8 = b6 ++ Pk.firstBits tl i := ⟨_, rfl⟩
              have hb8l : b8.length ≤ 200 := by rw [hb8, List.length_append, HLEN.out i]; omega
              rw [← hb8] at HW8
              have HB8 := hide hb8
              clear hK3 hgwb hwi hf8 hb8 HWO hE4
              go_wp2_with fail
              go_loopw [74] (fun jv wj => ∃ j : Nat, j ≤ n ∧ jv = .int .i64 j ∧ Hid (∃ dvj, Wr B wb K3 (b8 ++ Pk.tellBits tl (us.take j)) wj dvj) ∧ Hid (Fr (Own B K3) w8 wj)) (fun jv _ => n - (intOf jv).toNat)
              case atStart => exact ⟨0, Nat.zero_le _, rfl, ⟨dvi, HW8.out.same (by simp [Pk.tellBits])⟩, Fr.refl _ _⟩
              case round =>
                obtain ⟨j, hj, rfl, HWJ, HFJ⟩ := hrel
                by_cases hjn : j < n
                · have hjni : (j : Int) < (n : Int) := by omega
                  have hju : j < us.length := by have := HNE.out; omega
                  have c0 := (HFJ.out.cell (p := ⟨gt, j * 2, none⟩) hgtl8 (own_not hgtK3)).trans (HC8.out j hju).1
                  have c1 := (HFJ.out.cell (p := ⟨gt, j * 2 + 1, none⟩) hgtl8 (own_not hgtK3)).trans (HC8.out j hju).2
                  have hut := HTK.out (us.getD j (0, 0)) (by rw [List.getD, List.getElem?_eq_getElem hju]; exact List.getElem_mem _)
                  have HSN := hide (tell_snoc tl us j hju)
                  have hlj := tell_len HTLL.out (us.take j)
                  rw [List.length_take] at hlj
                  obtain ⟨t, ht⟩ : ∃ t, t = us.getD j (0, 0) := ⟨_, rfl⟩
                  rw [← ht] at c0 c1 hut HSN
                  have HSN : Hid (Pk.tellBits tl (us.take (j + 1)) = Pk.tellBits tl (us.take j) ++ (Pk.wbits (words tl) t.1 ++ Pk.numBits t.2 (Pk.tBits t.1))) := HSN.out
                  obtain ⟨sy, hsy⟩ : ∃ sy, sy = t.1 := ⟨_, rfl⟩
                  obtain ⟨mr, hmr⟩ : ∃ mr, mr = t.2 := ⟨_, rfl⟩
                  rw [← hsy, ← hmr] at HSN hut
                  rw [← hsy] at c0
                  rw [← hmr] at c1
                  have hbt7 : Pk.tBits sy ≤ 7 := by unfold Pk.tBits; split <;> (try split) <;> (try split) <;> omega
                  obtain ⟨wa, hwa⟩ : ∃ wa, wa = wr.alloc (.cells #[.int .i64 (sy : Nat), .int .i64 (mr : Nat)] 150) := ⟨_, rfl⟩
                  have hfa : Fr No wr wa := by rw [hwa]; exact (Fr.refl _ _).alloc _
                  have hba : wa.heap[wr.heap.size]? = some (.cells #[.int .i64 (sy : Nat), .int .i64 (mr : Nat)] 150 (0, 0)) := by rw [hwa]; exact alloc_at wr _
                  obtain ⟨ob, hob⟩ : ∃ ob, ob = wr.heap.size := ⟨_, rfl⟩
                  have a0 : (wr.alloc (.cells #[.int .i64 (sy : Nat), .int .i64 (mr : Nat)] 150)).cell? ⟨wr.heap.size, 0, none⟩ = some (.int .i64 (sy : Nat)) := by rw [← hwa, cell_of hba]; rfl
                  have HBEH := hide (behind_any sy wa (by omega))
                  obtain ⟨dvj, hwj⟩ := HWJ.out
                  have hasz : wa.heap.size = wr.heap.size + 1 := by rw [hwa, World.size_alloc]
                  have HWA4 : Hid (Wr B wb ([ob] ++ K3) (b8 ++ Pk.tellBits tl (us.take j)) wa dvj) := hwj.more hfa (fun k hk => by rw [List.mem_singleton.1 hk, hob, hasz]; omega)
                  obtain ⟨K4, hK4⟩ : ∃ K4, K4 = [ob] ++ K3 := ⟨_, rfl⟩
                  have hobK : ob ∈ K4 := by rw [hK4]; simp
                  have hgwK4 : gw ∈ K4 := by rw [hK4]; exact List.mem_append.2 (.inr hgwK)
                  have HK4 := hide hK4
                  rw [← hK4] at HWA4
                  have HBA := hide hba
                  rw [← hob] at HBA
                  have HFA := hide (HFJ.out.trans hfa.of_no)
                  have HGWA := hide (HFA.out.at HGW8.out (own_not hgwK))
                  have HWAE := hide hwa
                  obtain ⟨bj, hbj⟩ : ∃ bj, bj = b8 ++ Pk.tellBits tl (us.take j) := ⟨_, rfl⟩
                  have hbjl : bj.length ≤ 10000 := by rw [hbj, List.length_append]; omega
                  rw [← hbj] at HWA4
                  have HBJ := hide hbj
                  have HOB := hide hob
                  clear hwa hfa hba hwj hasz hK4 hbj hlj hsy hmr ht HWJ hob
                  go_wp2_with fail
                  rw [← HWAE.out]
                  refine HBEH.out.mono ?_
                  rintro ee W1 ⟨rfl, hW1⟩
                  have hW1 := hW1.symm
                  subst hW1
                  rw [← HOB.out]
                  rw [runBits_eq]
                  clear a0
                  have b0 : wa.cell? ⟨ob, 0, none⟩ = some (.int .i64 (sy : Nat)) := by rw [cell_of HBA.out]; rfl
                  obtain ⟨q0, q1⟩ := word_cells HGWA.out sy (by omega)
                  have hq2 := (Pk.words_get tl sy).resolve_right (fun h => h HTLL.out)
                  have HWB : Hid (Pk.wbits (words tl) sy = Pk.wordBits ((words tl).getD sy (0, 0)).1 ((words tl).getD sy (0, 0)).2) := rfl
                  obtain ⟨wo, hwo⟩ : ∃ wo, wo = (words tl).getD sy (0, 0) := ⟨_, rfl⟩
                  rw [← hwo] at q0 q1 hq2 HWB
                  clear hwo
                  have hsyi : (sy : Int) < 19 := by omega
                  obtain ⟨bt, hbt⟩ : ∃ bt, bt = Pk.tBits sy := ⟨_, rfl⟩
                  rw [← hbt] at HSN hbt7 ⊢
                  clear hbt
                  go_wp2_with fail
                  refine (wword_any B wb K4 _ wo.1 wo.2 wa dvj HWA4.out (by omega) (by omega)).mono ?_
                  rintro ee w9 ⟨rfl, hf9, dv9, hw9⟩
                  rw [← HWB.out] at hw9
                  have HB9 := hide (hf9.at HBA.out (own_not hobK))
                  have hf9' : Fr (Own B K3) wa w9 := by rw [HK4.out] at hf9; exact hf9.lessK
                  have HF9 := hide (HFA.out.trans hf9')
                  have HW9 := hide hw9
                  have b1 : w9.cell? ⟨ob, 1, none⟩ = some (.int .i64 (mr : Nat)) := by rw [cell_of HB9.out]; rfl
                  have hwbl := Pk.wbits_len tl HTLL.out sy
                  clear hw9 hf9 hf9' q0 q1 b0 HBEH HWA4 HFA HGWA
                  go_wp2_with fail
                  refine (wnumber_any B wb K4 _ mr bt w9 dv9 HW9.out (by omega) (by rw [List.length_append]; omega)).mono ?_
                  rintro ee w10 ⟨rfl, hf10, dv10, hw10⟩
                  have hf10' : Fr (Own B K3) w9 w10 := by rw [HK4.out] at hf10; exact hf10.lessK
                  have HF10 := hide (HF9.out.trans hf10')
                  have HW10 : Hid (Wr B wb K3 (b8 ++ Pk.tellBits tl (us.take (j + 1))) w10 dv10) := by
                    unfold Hid
                    rw [HK4.out] at hw10
                    refine hw10.less.same ?_
                    rw [HSN.out, HBJ.out]
                    simp only [List.append_assoc]
                  clear hw10 hf10 hf10' HW9 HF9 HB9 b1
                  go_wp2_with fail
                  refine ⟨⟨j + 1, by omega, by go_num, ⟨dv10, HW10.out⟩, HF10.out⟩, by simp [intOf]; omega⟩
                · have hje : j = n := by omega
                  subst hje
                  have hjni : ¬ (j : Int) < (j : Int) := by omega
                  obtain ⟨dvj, hwj⟩ := HWJ.out
                  have HDN : Hid (HeadP B wb K bs ls lf w (.returned (.tuple #[])) wr) := by
                    refine ⟨tl, by rw [← HUS.out]; exact HBST.out, rfl, ?_, dvj, ?_⟩
                    · have h1 := HFJ.out
                      rw [HK3.out] at h1
                      have h2 := HF8.out.trans h1.lessK
                      rw [HK2.out] at h2
                      exact HF3.out.of_no.trans h2.lessK
                    · rw [HK3.out, HK2.out] at hwj
                      refine hwj.less.less.same ?_
                      rw [HHB.out tl, HB8.out, HB6.out, HCN.out, List.take_of_length_le (by have := HNE.out; omega), HA.out.1, HA.out.2]
                      simp only [List.append_assoc]
                  go_wp2
                  go_end0
                  exact HDN.out
end Go.Proofs.YtjjjlilflbddoaaGreatDoor
