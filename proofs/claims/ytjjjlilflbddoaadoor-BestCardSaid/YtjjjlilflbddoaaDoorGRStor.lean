import Derived.Test.YtjjjlilflbddoaaDoorGRSymb
namespace Go.Proofs.YtjjjlilflbddoaaDoor
open Go.RowKit

theorem bytesN_bad (d : List UInt8) (lim n : Nat) (x : Rf.D) (h : x.st ≠ 0) : Rf.bytesN d lim n x = x := by
  cases n with
  | zero => rfl
  | succ n => unfold Rf.bytesN; rw [if_neg h]
theorem put_st (lim : Nat) (x : Rf.D) (c : UInt8) (h : x.st = 0) : (Rf.put lim x c).st = 0 ∨ (Rf.put lim x c).st = 8 := by
  unfold Rf.put; split
  · exact Or.inr rfl
  · exact Or.inl h

set_option maxRecDepth 100000 in
set_option maxHeartbeats 6400000 in
theorem rstored_any (B rb : Nat) (K : List Nat) (d : List UInt8) (lim : Nat) (x : Rf.D) (w : World) (s : DS) (h : RL B rb K d lim x w s) (h0 : x.st = 0) :
    Calls Tryd.prog 65 #[.pointer (some ⟨rb, 0, none⟩)] w fun e w' => e = .returned (.tuple #[]) ∧ (∃ s', RL B rb K d lim (Rf.stored d lim x) w' s') ∧ Fr (Own B K) w w' := by
  have hdl := h.dlen
  have hp := h.pos h0
  have hrbl := h.da.lt
  obtain ⟨P, hP⟩ : ∃ P, P = 8 * ((x.pos + 7) / 8) := ⟨_, rfl⟩
  have hP8 : P ≤ 8 * d.length := by omega
  have hPx : x.pos ≤ P := by omega
  have hPm : P % 8 = 0 := by omega
  have hPl : P < x.pos + 8 := by omega
  have HU : Hid (Rf.stored d lim x = match (Gz.num d 16 P).bind fun n p1 => (Gz.num d 16 p1).bind fun m p2 => .ok ((n, m), p2) with
      | .error k => { x with st := k }
      | .ok ((n, m), p2) => if m + n ≠ 65535 then { x with st := 4, pos := p2 } else Rf.bytesN d lim n { x with pos := p2 }) := by unfold Hid Rf.stored; rw [hP]; rfl
  clear hP
  generalize Rf.stored d lim x = R at *
  have k1 := h.da.c1
  rw [hp.1] at k1
  have HH := hide h
  have H0 := hide h0
  clear h h0
  go_enter Tryd.func65, Tryd.ntmps65
  go_wp2
  go_loopw [] (fun wr => ∃ p : Nat, x.pos ≤ p ∧ p ≤ P ∧ Da wr rb { s with pos := p } ∧ Fr (One rb) w wr) (fun wr => P - (numOf (wr.cell? ⟨rb, 1, none⟩)).toNat)
  case atStart => exact ⟨x.pos, Nat.le_refl _, hPx, by rw [← hp.1]; exact HH.out.da, Fr.refl _ _⟩
  case round =>
    obtain ⟨p, hp1, hp2, hr, hfr⟩ := hrel
    have c1 := hr.c1
    have e1 := hr.fz 1
    have c1 : wr.cell? ⟨rb, 1, none⟩ = some (.int .i64 (p : Nat)) := c1
    have hnm : numOf (wr.cell? ⟨rb, 1, none⟩) = (p : Nat) := by rw [c1]; rfl
    have HNM := hide hnm
    clear hnm
    by_cases hpm : p % 8 = 0
    · have hpP : p = P := by omega
      subst hpP
      have hb8 : ((p : Int) % 8 != 0) = false := by simp; omega
      have hL := HH.out.step H0.out hfr p hr hp1 hP8
      have HN := hide (rnum_any B rb 16 K d lim { x with pos := p } wr _ hL H0.out (by omega))
      have HFR := hide hfr
      clear hr hfr hL
      go_wp2_with fail
      refine HN.out.mono ?_
      rintro e w1 ⟨hf1, hres⟩
      have HF1 := hide (HFR.out.trans hf1)
      clear hf1 HN
      cases hn1 : Gz.num d 16 p with
      | error k =>
        simp only [hn1] at hres
        obtain ⟨rfl, ⟨v, hv, rfl⟩, q, hL1⟩ := hres
        have HR : Hid (R = { x with st := 2 }) := by unfold Hid; rw [HU.out, hn1]; rfl
        have HN2 := hide (rnum_dead B rb 16 K d lim _ w1 _ hL1 rfl (by omega) (by omega))
        clear hL1 hn1
        go_wp2_with fail
        refine HN2.out.mono ?_
        rintro e w2 ⟨hf2, ⟨v2, hv2, rfl⟩, q2, hL2⟩
        have k2 : w2.cell? ⟨rb, 2, none⟩ = some (.bool true) := hL2.da.c2
        have k1' := hL2.da.c1
        have e1' := hL2.da.fz 1
        have HL2 := hide hL2
        have HF2 := hide (HF1.out.trans hf2)
        clear hL2 hf2
        go_wp2
        try simp only [Exit.inBlock, Exit.then]
        refine bodyPost_ret (results_none rfl _ _ _) rfl ?_
        have hf3 := one_set rb 1 w2 (.int .i64 (x.pos : Nat))
        have hL3 := HL2.out.of (x' := { x with st := 2 }) hf3 (HL2.out.da.s1 (x.pos : Nat) x.pos rfl) rfl rfl rfl rfl rfl rfl rfl rfl HL2.out.sh HL2.out.er (fun e => by simp at e)
        rw [← HR.out] at hL3
        exact ⟨rfl, ⟨_, hL3⟩, HH.out.one (HF2.out.trans hf3)⟩
      | ok okk =>
        obtain ⟨n, p1⟩ := okk
        simp only [hn1] at hres
        obtain ⟨rfl, hn65, hp18, hpp1, hL1⟩ := hres
        have HN2 := hide (rnum_any B rb 16 K d lim _ w1 _ hL1 H0.out (by omega))
        have HN1 := hide hn1
        clear hL1 hn1
        go_wp2_with fail
        refine HN2.out.mono ?_
        rintro e w2 ⟨hf2, hres⟩
        have HF2 := hide (HF1.out.trans hf2)
        clear hf2 HN2
        cases hn2 : Gz.num d 16 p1 with
        | error k =>
          simp only [hn2] at hres
          obtain ⟨rfl, ⟨v2, hv2, rfl⟩, q2, hL2⟩ := hres
          have HR : Hid (R = { x with st := 2 }) := by unfold Hid; rw [HU.out, HN1.out]; simp only [Gz.Out.bind]; rw [hn2]
          have k2 : w2.cell? ⟨rb, 2, none⟩ = some (.bool true) := hL2.da.c2
          have k1' := hL2.da.c1
          have e1' := hL2.da.fz 1
          have HL2 := hide hL2
          clear hL2 hn2
          go_wp2
          try simp only [Exit.inBlock, Exit.then]
          refine bodyPost_ret (results_none rfl _ _ _) rfl ?_
          have hf3 := one_set rb 1 w2 (.int .i64 (x.pos : Nat))
          have hL3 := HL2.out.of (x' := { x with st := 2 }) hf3 (HL2.out.da.s1 (x.pos : Nat) x.pos rfl) rfl rfl rfl rfl rfl rfl rfl rfl HL2.out.sh HL2.out.er (fun e => by simp at e)
          rw [← HR.out] at hL3
          exact ⟨rfl, ⟨_, hL3⟩, HH.out.one (HF2.out.trans hf3)⟩
        | ok okk =>
          obtain ⟨m, p2⟩ := okk
          simp only [hn2] at hres
          obtain ⟨rfl, hm65, hp28, hpp2, hL2⟩ := hres
          have hU2 : R = if m + n ≠ 65535 then { x with st := 4, pos := p2 } else Rf.bytesN d lim n { x with pos := p2 } := by
            rw [HU.out, HN1.out]; simp only [Gz.Out.bind]; rw [hn2]
          have HU2 := hide hU2
          have k2 : w2.cell? ⟨rb, 2, none⟩ = some (.bool false) := by rw [hL2.da.c2]; exact congrArg (fun b => some (Value.bool b)) (HH.out.sh0 H0.out)
          have k3 := hL2.da.c3
          have e3 := hL2.da.fz 3
          have HL2 := hide hL2
          clear hL2 hn2 hU2 HU
          by_cases hmn : m + n = 65535
          · have HR : Hid (Rf.bytesN d lim n { x with pos := p2 } = R) := by unfold Hid; rw [HU2.out, if_neg (by omega)]
            have hb : ((m : Int) != 65535 - (n : Int)) = false := by simp; omega
            clear k3 e3 HU2
            go_wp2_with fail
            go_loopw [5] (fun i wr => ∃ (k : Nat) (y : Rf.D) (s' : DS), k ≤ n ∧ i = .int .i64 k ∧ Hid (Rf.bytesN d lim (n - k) y = R) ∧ RL B rb K d lim y wr s' ∧ Fr (Own B K) w wr) (fun i _ => n - (intOf i).toNat)
            case atStart => exact ⟨0, _, _, Nat.zero_le _, rfl, HR.out, HL2.out, HH.out.one HF2.out⟩
            case round =>
              obtain ⟨k, y, s', hk, rfl, hgo, hLr, hfr⟩ := hrel
              by_cases hkn : k < n
              · by_cases hy0 : y.st = 0
                · have HOK := hide (rok_good hLr hy0)
                  have HN8 := hide (rnum_any B rb 8 K d lim y wr s' hLr hy0 (by omega))
                  obtain ⟨m', hm'⟩ : ∃ m', n - k = m' + 1 := ⟨n - k - 1, by omega⟩
                  have HM := hide hm'
                  have HGO : Hid (R = match Gz.num d 8 y.pos with
                      | .error k => Rf.bytesN d lim m' { y with st := k }
                      | .ok (v, p1) => Rf.bytesN d lim m' (Rf.put lim { y with pos := p1 } (UInt8.ofNat v))) := by
                    unfold Hid; rw [← hgo.out, hm']
                    conv => lhs; unfold Rf.bytesN
                    rw [if_pos hy0]
                    cases hnn : Gz.num d 8 y.pos with
                    | error k => exact (bytesN_bad _ _ _ _ (by have : k = 2 := by unfold Gz.num at hnn; split at hnn; cases hnn; injection hnn with e; exact e.symm
                                                               show k ≠ 0; omega)).symm
                    | ok o => rfl
                  have HLR := hide hLr
                  clear hm' hLr
                  go_wp2_with fail
                  refine HOK.out.mono ?_
                  rintro e w' ⟨rfl, hw⟩
                  obtain rfl := hw.symm
                  go_wp2_with fail
                  refine HN8.out.mono ?_
                  rintro e w3 ⟨hf3, hres⟩
                  have HF3 := hide (hfr.trans (HLR.out.one hf3))
                  clear hf3 HN8
                  cases hn8 : Gz.num d 8 y.pos with
                  | error kk =>
                    rw [hn8] at hres
                    obtain ⟨rfl, ⟨v, hv, rfl⟩, q, hL3⟩ := hres
                    have HR3 : Hid (Rf.bytesN d lim m' { y with st := 2 } = R) := by unfold Hid; rw [HGO.out, hn8]
                    have k2 : w3.cell? ⟨rb, 2, none⟩ = some (.bool true) := hL3.da.c2
                    have HL3 := hide hL3
                    clear hL3 hn8
                    go_wp2_with fail
                    exact ⟨⟨k + 1, _, _, by omega, by go_num, by rw [show n - (k + 1) = m' by have := HM.out; omega]; exact HR3.out, HL3.out, HF3.out⟩, by simp [intOf]; omega⟩
                  | ok okk =>
                    obtain ⟨v, p3⟩ := okk
                    have hv8 : v < 256 := by
                      unfold Gz.num at hn8
                      split at hn8
                      · injection hn8 with e; injection e with e1 e2; rw [← e1]; exact val_lt d y.pos 8
                      · cases hn8
                    rw [hn8] at hres
                    obtain ⟨rfl, hv, hp38, hpp3, hL3⟩ := hres
                    have HR3 : Hid (Rf.bytesN d lim m' (Rf.put lim { y with pos := p3 } (UInt8.ofNat v)) = R) := by unfold Hid; rw [HGO.out, hn8]
                    have k2 : w3.cell? ⟨rb, 2, none⟩ = some (.bool false) := by rw [hL3.da.c2]; exact congrArg (fun b => some (Value.bool b)) (HLR.out.sh0 hy0)
                    have HL3 := hide hL3
                    have HPU := hide (rput_any B rb K d lim _ _ _ (UInt8.ofNat v) hL3 hy0)
                    have HZ := hide (ofNat_toNat v hv8)
                    clear hL3 hn8
                    go_wp2_with fail
                    refine Calls.mono (by have := HPU.out; rw [← HZ.out] at this; exact this) ?_
                    rintro e w4 ⟨rfl, ⟨s4, hL4⟩, hf4⟩
                    have HL4 := hide hL4
                    have HF4 := hide (HF3.out.trans hf4)
                    clear hL4 hf4
                    go_wp2_with fail
                    exact ⟨⟨k + 1, _, s4, by omega, by go_num, by rw [show n - (k + 1) = m' by have := HM.out; omega]; exact HR3.out, HL4.out, HF4.out⟩, by simp [intOf]; omega⟩
                · have HOK := hide (rok_bad hLr hy0)
                  have HRY : Hid (R = y) := by unfold Hid; rw [← hgo.out]; exact bytesN_bad _ _ _ _ hy0
                  go_wp2_with (go_at_call 42; refine HOK.out.mono ?_; rintro e w' ⟨rfl, hw⟩; obtain rfl := hw.symm)
                  go_end0
                  exact ⟨rfl, ⟨s', HRY.out ▸ hLr⟩, hfr⟩
              · have HRY : Hid (R = y) := by unfold Hid; rw [← hgo.out, show n - k = 0 by omega]; rfl
                go_wp2_with fail
                go_end0
                exact ⟨rfl, ⟨s', HRY.out ▸ hLr⟩, hfr⟩
          · have HR : Hid (R = { x with st := 4, pos := p2 }) := by unfold Hid; rw [HU2.out, if_pos (by omega)]
            have hb : ((m : Int) != 65535 - (n : Int)) = true := by simp; omega
            go_wp2
            try simp only [Exit.inBlock, Exit.then]
            refine bodyPost_ret (results_none rfl _ _ _) rfl ?_
            have hf9 := one_set rb 3 w2 (.int .i64 4)
            refine ⟨rfl, ⟨{ s with pos := p2, er := 4 }, ?_⟩, HH.out.one (HF2.out.trans hf9)⟩
            rw [HR.out]
            exact HL2.out.of hf9 (HL2.out.da.s3 4 4 rfl) rfl rfl rfl rfl rfl rfl rfl rfl (HH.out.sh0 H0.out) rfl (fun e => by simp at e)
    · have hb8 : ((p : Int) % 8 != 0) = true := by simp; omega
      go_wp2_with fail
      refine ⟨⟨p + 1, by omega, by omega, hr.s1 ((p : Int) + 1) (p + 1) (by omega), hfr.trans (one_set rb 1 wr _)⟩, ?_⟩
      rw [HNM.out, (hr.s1 ((p : Int) + 1) (p + 1) (by omega)).c1]
      show P - ((((p + 1 : Nat) : Nat) : Int)).toNat < P - ((p : Nat) : Int).toNat
      omega
end Go.Proofs.YtjjjlilflbddoaaDoor
namespace Go.Proofs.YtjjjlilflbddoaaDoor
open Go.RowKit

/-- A row that was built here, read as a list. -/
theorem ins_of_row {w : World} {B : Nat} {v : Value} {l : List Nat} (h : w.ownsRow B 3 1 v l.length (l.map iv)) : ∃ b, Ins w b v l ∧ (0 < l.length → v.ownBlock = some b) := by
  rcases h.2 with ⟨hv, h0⟩ | ⟨g, cap, cur, hv, _, hh, _, _, _, ht⟩
  · exact ⟨0, ⟨none, 0, 0, by rw [hv, h0], fun i hi => by omega⟩, fun h => by omega⟩
  · refine ⟨g, ⟨_, 0, cap, hv, fun i hi => ⟨rfl, lt_of hh, ?_⟩⟩, fun _ => by rw [hv]; rfl⟩
    rw [cell_of hh, Nat.zero_add]
    have e1 : (cur.toList.take (l.length * 1))[i]? = (l.map iv)[i]? := by rw [ht]
    rw [List.getElem?_take_of_lt (by omega)] at e1
    rw [← Array.getElem?_toList, e1]
    simp [iv, List.getD, hi]
theorem irow_form {w : World} {B n : Nat} {v : Value} {xs : List Value} (h : w.ownsRow B 3 1 v n xs) : ∃ ao cap, v = .slice ao n cap := by
  rcases h.2 with ⟨h, h0⟩ | ⟨g, cap, cur, h, _⟩
  · exact ⟨none, 0, by rw [h, h0]⟩
  · exact ⟨_, _, h⟩
theorem irow_nil (w : World) (B : Nat) : w.ownsRow B 3 1 (.slice none 0 0) 0 [] := ⟨rfl, Or.inl ⟨rfl, rfl⟩⟩
theorem wide_take (l : List Nat) (n k : Nat) (h : k < n) : (Gz.wide l n).take (k + 1) = (Gz.wide l n).take k ++ [if k < l.length then l.getD k 0 else 0] := by
  rw [List.take_add_one]
  congr 1
  unfold Gz.wide
  by_cases hk : k < l.length
  · rw [List.getElem?_append_left hk, if_pos hk]; simp [List.getD, hk]
  · rw [List.getElem?_append_right (by omega), List.getElem?_replicate, if_pos (by omega), if_neg hk]; rfl

set_option maxRecDepth 100000 in
set_option maxHeartbeats 1600000 in
/-- The lengths, with zeros up to n. -/
theorem rwide_any (b n : Nat) (v : Value) (l : List Nat) (w : World) (hb : Ins w b v l) (hn : n ≤ 400) (hln : l.length ≤ n) :
    Calls Tryd.prog 97 #[v, .int .i64 n] w fun e w' => ∃ tv, e = .returned tv ∧ w'.ownsRow w.heap.size 3 1 tv (Gz.wide l n).length ((Gz.wide l n).map iv) ∧ Fr No w w' := by
  obtain ⟨a, off, cap, rfl, hc⟩ := hb
  obtain ⟨i0, hi, hz0, hz1, hz2⟩ := info_parts rinfo3
  have hwl : (Gz.wide l n).length = n := by unfold Gz.wide; simp; omega
  go_enter Tryd.func97, Tryd.ntmps97
  go_wp2
  go_loopw [5, 6] (fun tv i wr => ∃ (k : Nat) (l4 : List Nat), k ≤ n ∧ i = .int .i64 k ∧ Hid (l4 = (Gz.wide l n).take k) ∧ l4.length = k ∧ wr.ownsRow w.heap.size 3 1 tv l4.length (l4.map iv) ∧ Fr No w wr) (fun _ i _ => n - (intOf i).toNat)
  case atStart => exact ⟨0, [], Nat.zero_le _, rfl, rfl, rfl, irow_nil _ _, Fr.refl _ _⟩
  case round =>
    obtain ⟨k, l4, hk, rfl, HL, hl4, hrow, hfr⟩ := hrel
    subst hl4
    obtain ⟨ao, cp, rfl⟩ := irow_form hrow
    have HROW := hide hrow
    clear hrow
    have hsz := hfr.size
    by_cases hkn : l4.length < n
    · have HW := hide (wide_take l n l4.length hkn)
      obtain ⟨z, hz⟩ : ∃ z, z = if l4.length < l.length then l.getD l4.length 0 else 0 := ⟨_, rfl⟩
      rw [← hz] at HW
      have HZ := hide hz
      clear hz
      by_cases hkl : l4.length < l.length
      · obtain ⟨rfl, hbl, hcc⟩ := hc l4.length hkl
        have hcc := (hfr.cell (p := ⟨b, off + l4.length, none⟩) hbl (no_no _)).trans hcc
        have hzz : l.getD l4.length 0 = z := by rw [HZ.out, if_pos hkl]
        rw [hzz] at hcc
        go_wp2_with (at_builtin; refine wpList_append_lies _ rfl (.tmp 21) (.tmp 23) 30 rfl w.heap.size 3 i0 (.int .i64 0) 1 8 Tryd.underlying30 hi hz0 hz1 hz2 rfl (by decide) (.slice ao l4.length cp) l4.length (l4.map iv) rfl ?hown ⟨wr.heap.size, 0, none⟩ 1 1 [iv z] rfl rfl ?hnews ?h1 (by decide) ?h63 ?hb ?hbase _ rfl ?hK)
        case hown => exact ownsRow_fr (S := No) HROW.out ((Fr.refl _ _).alloc _) (fun _ _ => no_no _)
        case hnews => first | exact (fun j u h => h) | intro j u hj; match j, hj with | 0, hj => simp at hj; subst hj; exact cell_of (alloc_at wr _) 0
        case h1 => first | rfl | (intro u hu; simp at hu; subst hu; rfl)
        case h63 => unfold maxLen; omega
        case hb => omega
        case hbase => first | omega | (simp; omega)
        case hK =>
          intro g cap5 w5 hown5 hgrow5 hat5 hlt5
          have hf5 : Fr No w w5 := (hfr.alloc _).grown hgrow5 (fun k hk2 hk3 => by have := ownsRow_lt HROW.out hk2; omega)
          have HO5 := hide hown5
          clear hown5 hgrow5 hat5
          go_wp2_with fail
          refine ⟨⟨l4.length + 1, l4 ++ [z], by omega, by go_num, ?_, by simp, ?_, hf5⟩, by simp [intOf]; omega⟩
          · unfold Hid; rw [HW.out, ← HL.out]
          · have := HO5.out; simpa using this
      · have hzz : z = 0 := by rw [HZ.out, if_neg hkl]
        subst hzz
        go_wp2_with (at_builtin; refine wpList_append_lies _ rfl (.tmp 21) (.tmp 23) 30 rfl w.heap.size 3 i0 (.int .i64 0) 1 8 Tryd.underlying30 hi hz0 hz1 hz2 rfl (by decide) (.slice ao l4.length cp) l4.length (l4.map iv) rfl ?hown ⟨wr.heap.size, 0, none⟩ 1 1 [iv 0] rfl rfl ?hnews ?h1 (by decide) ?h63 ?hb ?hbase _ rfl ?hK)
        case hown => exact ownsRow_fr (S := No) HROW.out ((Fr.refl _ _).alloc _) (fun _ _ => no_no _)
        case hnews => first | exact (fun j u h => h) | intro j u hj; match j, hj with | 0, hj => simp at hj; subst hj; exact cell_of (alloc_at wr _) 0
        case h1 => first | rfl | (intro u hu; simp at hu; subst hu; rfl)
        case h63 => unfold maxLen; omega
        case hb => omega
        case hbase => first | omega | (simp; omega)
        case hK =>
          intro g cap5 w5 hown5 hgrow5 hat5 hlt5
          have hf5 : Fr No w w5 := (hfr.alloc _).grown hgrow5 (fun k hk2 hk3 => by have := ownsRow_lt HROW.out hk2; omega)
          have HO5 := hide hown5
          clear hown5 hgrow5 hat5
          go_wp2_with fail
          refine ⟨⟨l4.length + 1, l4 ++ [0], by omega, by go_num, ?_, by simp, ?_, hf5⟩, by simp [intOf]; omega⟩
          · unfold Hid; rw [HW.out, ← HL.out]
          · have := HO5.out; simpa using this
    · have hke : l4.length = n := by omega
      have HKE := hide hke
      clear hke
      go_wp2
      go_ret
      refine ⟨_, rfl, ?_, hfr⟩
      have e1 : l4 = Gz.wide l n := by rw [HL.out, List.take_of_length_le (by omega)]
      rw [← e1]; exact HROW.out

theorem fixA_take (k : Nat) (h : k < 288) : Rf.fixedA.take (k + 1) = Rf.fixedA.take k ++ [Gz.fixedLen k] := by
  rw [List.take_succ_eq_append_getElem (by simp [Rf.fixedA]; exact h)]; simp [Rf.fixedA]
theorem fixB_take (k : Nat) (h : k < 32) : Rf.fixedB.take (k + 1) = Rf.fixedB.take k ++ [5] := by
  have hl : k < Rf.fixedB.length := by unfold Rf.fixedB; rw [List.length_replicate]; exact h
  rw [List.take_succ_eq_append_getElem hl]
  congr 1
  have : Rf.fixedB[k] = (List.replicate 32 5)[k]'(by rw [List.length_replicate]; exact h) := rfl
  rw [this, List.getElem_replicate]

set_option maxRecDepth 100000 in
set_option maxHeartbeats 6400000 in
theorem rfixed_any (w : World) :
    Calls Tryd.prog 66 #[] w fun e w' => ∃ tv uv, e = .returned (.tuple #[tv, uv]) ∧ w'.ownsRow w.heap.size 3 1 tv Rf.fixedA.length (Rf.fixedA.map iv) ∧ w'.ownsRow w.heap.size 3 1 uv Rf.fixedB.length (Rf.fixedB.map iv) ∧ (∀ b, tv.ownBlock = some b → uv.ownBlock ≠ some b) ∧ Fr No w w' := by
  obtain ⟨i0, hi, hz0, hz1, hz2⟩ := info_parts rinfo3
  have hA : Rf.fixedA.length = 288 := by unfold Rf.fixedA; rw [List.length_map, List.length_range]
  have hB : Rf.fixedB.length = 32 := by unfold Rf.fixedB; rw [List.length_replicate]
  go_enter Tryd.func66, Tryd.ntmps66
  go_wp2
  go_loopw [2, 3] (fun tv i wr => ∃ (k : Nat) (l4 : List Nat), k ≤ 288 ∧ i = .int .i64 k ∧ Hid (l4 = Rf.fixedA.take k) ∧ l4.length = k ∧ wr.ownsRow w.heap.size 3 1 tv l4.length (l4.map iv) ∧ Fr No w wr) (fun _ i _ => 288 - (intOf i).toNat)
  case atStart => exact ⟨0, [], Nat.zero_le _, rfl, rfl, rfl, irow_nil _ _, Fr.refl _ _⟩
  case round =>
    obtain ⟨k, l4, hk, rfl, HL, hl4, hrow, hfr⟩ := hrel
    subst hl4
    obtain ⟨ao, cp, rfl⟩ := irow_form hrow
    have HROW := hide hrow
    clear hrow
    have hsz := hfr.size
    by_cases hkn : l4.length < 288
    · have HW := hide (fixA_take l4.length hkn)
      by_cases h1 : l4.length ≤ 143
      · have hF : Gz.fixedLen l4.length = 8 := by unfold Gz.fixedLen; rw [if_pos h1]
        rw [hF] at HW
        have a1 : ¬ (143 : Int) < l4.length := by omega
        have a2 : ¬ (255 : Int) < l4.length := by omega
        go_wp2_with (at_builtin; refine wpList_append_lies _ rfl (.tmp 23) (.tmp 25) 30 rfl w.heap.size 3 i0 (.int .i64 0) 1 8 Tryd.underlying30 hi hz0 hz1 hz2 rfl (by decide) (.slice ao l4.length cp) l4.length (l4.map iv) rfl ?hown ⟨wr.heap.size, 0, none⟩ 1 1 [iv 8] rfl rfl ?hnews ?h1 (by decide) ?h63 ?hb ?hbase _ rfl ?hK)
        case hown => exact ownsRow_fr (S := No) HROW.out ((Fr.refl _ _).alloc _) (fun _ _ => no_no _)
        case hnews => first | exact (fun j u h => h) | intro j u hj; match j, hj with | 0, hj => simp at hj; subst hj; exact cell_of (alloc_at wr _) 0
        case h1 => first | rfl | (intro u hu; simp at hu; subst hu; rfl)
        case h63 => unfold maxLen; omega
        case hb => omega
        case hbase => first | omega | (simp; omega)
        case hK =>
          intro g cap5 w5 hown5 hgrow5 hat5 hlt5
          have hf5 : Fr No w w5 := (hfr.alloc _).grown hgrow5 (fun k hk2 hk3 => by have := ownsRow_lt HROW.out hk2; omega)
          have HO5 := hide hown5
          clear hown5 hgrow5 hat5
          go_wp2_with fail
          refine ⟨⟨l4.length + 1, l4 ++ [8], by omega, by go_num, ?_, by simp, ?_, hf5⟩, by simp [intOf]; omega⟩
          · unfold Hid; rw [HW.out, ← HL.out]
          · have := HO5.out; simpa using this
      · have a1 : (143 : Int) < l4.length := by omega
        by_cases h2 : l4.length ≤ 255
        · have hF : Gz.fixedLen l4.length = 9 := by unfold Gz.fixedLen; rw [if_neg h1, if_pos h2]
          rw [hF] at HW
          have a2 : (l4.length : Int) ≤ 255 := by omega
          have a3 : ¬ (255 : Int) < l4.length := by omega
          go_wp2_with (at_builtin; refine wpList_append_lies _ rfl (.tmp 23) (.tmp 25) 30 rfl w.heap.size 3 i0 (.int .i64 0) 1 8 Tryd.underlying30 hi hz0 hz1 hz2 rfl (by decide) (.slice ao l4.length cp) l4.length (l4.map iv) rfl ?hown ⟨wr.heap.size, 0, none⟩ 1 1 [iv 9] rfl rfl ?hnews ?h1 (by decide) ?h63 ?hb ?hbase _ rfl ?hK)
          case hown => exact ownsRow_fr (S := No) HROW.out ((Fr.refl _ _).alloc _) (fun _ _ => no_no _)
          case hnews => first | exact (fun j u h => h) | intro j u hj; match j, hj with | 0, hj => simp at hj; subst hj; exact cell_of (alloc_at wr _) 0
          case h1 => first | rfl | (intro u hu; simp at hu; subst hu; rfl)
          case h63 => unfold maxLen; omega
          case hb => omega
          case hbase => first | omega | (simp; omega)
          case hK =>
            intro g cap5 w5 hown5 hgrow5 hat5 hlt5
            have hf5 : Fr No w w5 := (hfr.alloc _).grown hgrow5 (fun k hk2 hk3 => by have := ownsRow_lt HROW.out hk2; omega)
            have HO5 := hide hown5
            clear hown5 hgrow5 hat5
            go_wp2_with fail
            refine ⟨⟨l4.length + 1, l4 ++ [9], by omega, by go_num, ?_, by simp, ?_, hf5⟩, by simp [intOf]; omega⟩
            · unfold Hid; rw [HW.out, ← HL.out]
            · have := HO5.out; simpa using this
        · have a2 : ¬ (l4.length : Int) ≤ 255 := by omega
          have a3 : (255 : Int) < l4.length := by omega
          by_cases h3 : l4.length ≤ 279
          · have hF : Gz.fixedLen l4.length = 7 := by unfold Gz.fixedLen; rw [if_neg h1, if_neg h2, if_pos h3]
            rw [hF] at HW
            have a4 : (l4.length : Int) ≤ 279 := by omega
            go_wp2_with (at_builtin; refine wpList_append_lies _ rfl (.tmp 23) (.tmp 25) 30 rfl w.heap.size 3 i0 (.int .i64 0) 1 8 Tryd.underlying30 hi hz0 hz1 hz2 rfl (by decide) (.slice ao l4.length cp) l4.length (l4.map iv) rfl ?hown ⟨wr.heap.size, 0, none⟩ 1 1 [iv 7] rfl rfl ?hnews ?h1 (by decide) ?h63 ?hb ?hbase _ rfl ?hK)
            case hown => exact ownsRow_fr (S := No) HROW.out ((Fr.refl _ _).alloc _) (fun _ _ => no_no _)
            case hnews => first | exact (fun j u h => h) | intro j u hj; match j, hj with | 0, hj => simp at hj; subst hj; exact cell_of (alloc_at wr _) 0
            case h1 => first | rfl | (intro u hu; simp at hu; subst hu; rfl)
            case h63 => unfold maxLen; omega
            case hb => omega
            case hbase => first | omega | (simp; omega)
            case hK =>
              intro g cap5 w5 hown5 hgrow5 hat5 hlt5
              have hf5 : Fr No w w5 := (hfr.alloc _).grown hgrow5 (fun k hk2 hk3 => by have := ownsRow_lt HROW.out hk2; omega)
              have HO5 := hide hown5
              clear hown5 hgrow5 hat5
              go_wp2_with fail
              refine ⟨⟨l4.length + 1, l4 ++ [7], by omega, by go_num, ?_, by simp, ?_, hf5⟩, by simp [intOf]; omega⟩
              · unfold Hid; rw [HW.out, ← HL.out]
              · have := HO5.out; simpa using this
          · have hF : Gz.fixedLen l4.length = 8 := by unfold Gz.fixedLen; rw [if_neg h1, if_neg h2, if_neg h3, if_pos hkn]
            rw [hF] at HW
            have a4 : ¬ (l4.length : Int) ≤ 279 := by omega
            go_wp2_with (at_builtin; refine wpList_append_lies _ rfl (.tmp 23) (.tmp 25) 30 rfl w.heap.size 3 i0 (.int .i64 0) 1 8 Tryd.underlying30 hi hz0 hz1 hz2 rfl (by decide) (.slice ao l4.length cp) l4.length (l4.map iv) rfl ?hown ⟨wr.heap.size, 0, none⟩ 1 1 [iv 8] rfl rfl ?hnews ?h1 (by decide) ?h63 ?hb ?hbase _ rfl ?hK)
            case hown => exact ownsRow_fr (S := No) HROW.out ((Fr.refl _ _).alloc _) (fun _ _ => no_no _)
            case hnews => first | exact (fun j u h => h) | intro j u hj; match j, hj with | 0, hj => simp at hj; subst hj; exact cell_of (alloc_at wr _) 0
            case h1 => first | rfl | (intro u hu; simp at hu; subst hu; rfl)
            case h63 => unfold maxLen; omega
            case hb => omega
            case hbase => first | omega | (simp; omega)
            case hK =>
              intro g cap5 w5 hown5 hgrow5 hat5 hlt5
              have hf5 : Fr No w w5 := (hfr.alloc _).grown hgrow5 (fun k hk2 hk3 => by have := ownsRow_lt HROW.out hk2; omega)
              have HO5 := hide hown5
              clear hown5 hgrow5 hat5
              go_wp2_with fail
              refine ⟨⟨l4.length + 1, l4 ++ [8], by omega, by go_num, ?_, by simp, ?_, hf5⟩, by simp [intOf]; omega⟩
              · unfold Hid; rw [HW.out, ← HL.out]
              · have := HO5.out; simpa using this
    · have e1 : l4 = Rf.fixedA := by rw [HL.out, List.take_of_length_le (by omega)]
      have HA : Hid (wr.ownsRow w.heap.size 3 1 (.slice ao l4.length cp) Rf.fixedA.length (Rf.fixedA.map iv)) := by
        unfold Hid
        have := HROW.out
        rw [e1] at this ⊢
        exact this
      clear e1
      have HFR := hide hfr
      clear HROW hfr HL
      obtain ⟨wm, hwm⟩ : ∃ wm, wm = wr := ⟨_, rfl⟩
      have HWM := hide hwm
      go_wp2_with fail
      go_loopw [5, 6] (fun tv i w2 => ∃ (k : Nat) (l5 : List Nat), k ≤ 32 ∧ i = .int .i64 k ∧ Hid (l5 = Rf.fixedB.take k) ∧ l5.length = k ∧ w2.ownsRow wm.heap.size 3 1 tv l5.length (l5.map iv) ∧ Fr No wm w2) (fun _ i _ => 32 - (intOf i).toNat)
      case atStart => exact ⟨0, [], Nat.zero_le _, rfl, rfl, rfl, irow_nil _ _, by rw [hwm]; exact Fr.refl _ _⟩
      case round =>
        rw [← hwm] at HA HFR
        clear hwm HWM
        obtain ⟨k, l5, hk, rfl, HL, hl5, hrow, hfr⟩ := hrel
        subst hl5
        obtain ⟨ao2, cp2, rfl⟩ := irow_form hrow
        have HROW := hide hrow
        clear hrow
        have hsz2 := hfr.size
        have hszm := HFR.out.size
        by_cases hkn : l5.length < 32
        · have HW := hide (fixB_take l5.length hkn)
          go_wp2_with (at_builtin; refine wpList_append_lies _ rfl (.tmp 31) (.tmp 32) 30 rfl wm.heap.size 3 i0 (.int .i64 0) 1 8 Tryd.underlying30 hi hz0 hz1 hz2 rfl (by decide) (.slice ao2 l5.length cp2) l5.length (l5.map iv) rfl ?hown ⟨wr.heap.size, 0, none⟩ 1 1 [iv 5] rfl rfl ?hnews ?h1 (by decide) ?h63 ?hb ?hbase _ rfl ?hK)
          case hown => exact ownsRow_fr (S := No) HROW.out ((Fr.refl _ _).alloc _) (fun _ _ => no_no _)
          case hnews => first | exact (fun j u h => h) | intro j u hj; match j, hj with | 0, hj => simp at hj; subst hj; exact cell_of (alloc_at wr _) 0
          case h1 => first | rfl | (intro u hu; simp at hu; subst hu; rfl)
          case h63 => unfold maxLen; omega
          case hb => omega
          case hbase => first | omega | (simp; omega)
          case hK =>
            intro g cap5 w5 hown5 hgrow5 hat5 hlt5
            have hf5 : Fr No wm w5 := (hfr.alloc _).grown hgrow5 (fun k hk2 hk3 => by have := ownsRow_lt HROW.out hk2; omega)
            have HO5 := hide hown5
            clear hown5 hgrow5 hat5
            go_wp2_with fail
            refine ⟨⟨l5.length + 1, l5 ++ [5], by omega, by go_num, ?_, by simp, ?_, hf5⟩, by simp [intOf]; omega⟩
            · unfold Hid; rw [HW.out, ← HL.out]
            · have := HO5.out; simpa using this
        · have e1 : l5 = Rf.fixedB := by rw [HL.out, List.take_of_length_le (by omega)]
          have HE1 := hide e1
          clear e1
          go_wp2
          go_ret2
          refine ⟨_, _, rfl, ownsRow_fr HA.out hfr (fun _ _ => no_no _), ?_, ?_, HFR.out.trans hfr⟩
          · have h1 := HROW.out
            rw [HE1.out] at h1 ⊢
            exact ⟨h1.1, by
              rcases h1.2 with h | ⟨g, c, cur, e1, e2, e3⟩
              · exact Or.inl h
              · exact Or.inr ⟨g, c, cur, e1, by omega, e3⟩⟩
          · intro b hb1 hb2
            have h1 := (ownsRow_lt HA.out hb1).2
            have h2 := (ownsRow_lt HROW.out hb2).1
            omega
end Go.Proofs.YtjjjlilflbddoaaDoor
