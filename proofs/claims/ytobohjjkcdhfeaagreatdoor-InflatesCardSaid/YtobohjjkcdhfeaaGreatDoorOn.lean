import Derived.Test.YtobohjjkcdhfeaaGreatDoorGoOn
namespace Go.Proofs.YtobohjjkcdhfeaaGreatDoor
open Go.RowKit

theorem stored_eq (d : List UInt8) (lim : Nat) (out : List UInt8) (p : Nat) : Gz.stored d lim out p =
    ((Gz.num d 16 (8 * ((p + 7) / 8))).bind fun n p1 => (Gz.num d 16 p1).bind fun m p2 => if m + n ≠ 65535 then (Except.error 4 : Gz.Out Nat) else .ok (n, p2)).bind fun n p2 => Gz.bytes d lim n out p2 := by
  unfold Gz.stored
  cases Gz.num d 16 (8 * ((p + 7) / 8)) with
  | error k => rfl
  | ok okk =>
    obtain ⟨n, p1⟩ := okk
    simp only [Gz.Out.bind]
    cases Gz.num d 16 p1 with
    | error k => rfl
    | ok okk => obtain ⟨m, p2⟩ := okk; simp only; split <;> rfl

theorem endPl_place (w : World) (K : List Nat) (s : RS) (last : Bool) (h : s.la = last) (s' : RS) (hp : s'.pl = s.endPl) : PlaceAt w K s' (Gz.ended last) := by
  subst h
  unfold Gz.ended RS.endPl at *
  cases hla : s.la with
  | true => rw [hla] at hp; exact hp
  | false => rw [hla] at hp; exact hp

theorem told_ok {d : List UInt8} {c : Gz.Code} {count p q : Nat} {l : List Nat} (h : Gz.told d c count p = .ok (l, q)) (hp : p ≤ 8 * d.length) : p ≤ q ∧ q ≤ 8 * d.length := by
  refine iter_inv (P := fun _ x => p ≤ x ∧ x ≤ 8 * d.length) (R := fun _ x => p ≤ x ∧ x ≤ 8 * d.length) ?_ ?_ (8 * d.length) [] p (by omega) ⟨Nat.le_refl _, hp⟩ l q h
  · intro l x l' y hl hst
    unfold Gz.toldStep at hst
    split at hst
    · cases hs : Gz.sym d c x with
      | error k => rw [hs] at hst; cases hst
      | ok okk =>
        obtain ⟨sy, p1⟩ := okk
        have h1 := sym_ok hs
        rw [hs] at hst
        simp only [Gz.Out.bind] at hst
        cases hr : Gz.run d sy p1 with
        | error k => rw [hr] at hst; cases hst
        | ok okk =>
          obtain ⟨z, p2⟩ := okk
          have h2 := run_ok hr h1.2
          rw [hr] at hst
          simp only at hst
          split at hst
          · cases hst
          · split at hst
            · cases hst
            · injection hst with hpp; injection hpp with h3 h4; omega
    · injection hst with hpp; injection hpp with h1 h2; cases h1
  · intro l x r y hl hst
    unfold Gz.toldStep at hst
    split at hst
    · cases hs : Gz.sym d c x with
      | error k => rw [hs] at hst; cases hst
      | ok okk =>
        obtain ⟨sy, p1⟩ := okk
        rw [hs] at hst
        simp only [Gz.Out.bind] at hst
        cases hr : Gz.run d sy p1 with
        | error k => rw [hr] at hst; cases hst
        | ok okk =>
          obtain ⟨z, p2⟩ := okk
          rw [hr] at hst
          simp only at hst
          split at hst
          · cases hst
          · split at hst
            · cases hst
            · injection hst with hpp; injection hpp with h1 h2; cases h1
    · injection hst with hpp; injection hpp with h1 h2; omega
theorem telling_ge {d : List UInt8} {n p q : Nat} {c : Gz.Code} (h : Gz.telling d n p = .ok (c, q)) (hp : p ≤ 8 * d.length) : p ≤ q := by
  unfold Gz.telling at h
  cases hm : Gz.tellGo d n 0 (List.replicate 19 0) p with
  | error k => rw [hm] at h; cases h
  | ok okk =>
    obtain ⟨l, p1⟩ := okk
    have h1 := tellGo_ok hm hp
    rw [hm] at h
    simp only [Gz.Out.bind] at h
    split at h
    · injection h with hpp; injection hpp with _ h2; omega
    · cases h
theorem codes_more {d : List UInt8} {p q : Nat} {t : Gz.Table} (h : Gz.codes d p = .ok (t, q)) : p < q ∧ q ≤ 8 * d.length := by
  unfold Gz.codes at h
  cases h1 : Gz.num d 5 p with
  | error k => rw [h1] at h; cases h
  | ok okk =>
    obtain ⟨a, p1⟩ := okk
    have e1 := num_ok h1
    rw [h1] at h
    simp only [Gz.Out.bind] at h
    cases h2 : Gz.num d 5 p1 with
    | error k => rw [h2] at h; cases h
    | ok okk =>
      obtain ⟨b, p2⟩ := okk
      have e2 := num_ok h2
      rw [h2] at h
      simp only at h
      cases h3 : Gz.num d 4 p2 with
      | error k => rw [h3] at h; cases h
      | ok okk =>
        obtain ⟨c, p3⟩ := okk
        have e3 := num_ok h3
        rw [h3] at h
        simp only at h
        split at h
        · cases h
        · cases h4 : Gz.telling d (c + 4) p3 with
          | error k => rw [h4] at h; cases h
          | ok okk =>
            obtain ⟨tc, p4⟩ := okk
            have e4 := telling_ok h4 e3.2
            have e5 := telling_ge h4 e3.2
            rw [h4] at h
            simp only at h
            cases h6 : Gz.told d tc (a + 257 + (b + 1)) p4 with
            | error k => rw [h6] at h; cases h
            | ok okk =>
              obtain ⟨l, p5⟩ := okk
              have e6 := told_ok h6 e4
              rw [h6] at h
              simp only at h
              split at h
              · injection h with hpp; injection hpp with _ h7; omega
              · cases h
theorem codes_ok {d : List UInt8} {p q : Nat} {t : Gz.Table} (h : Gz.codes d p = .ok (t, q)) : q ≤ 8 * d.length := (codes_more h).2

set_option maxRecDepth 100000 in
set_option maxHeartbeats 1600000 in
theorem goOn_any (sp : Nat → Addr) (B rb db : Nat) (K : List Nat) (s : RS) (d : List UInt8) (w : World) (st : Gz.St) (hS : Stands sp B rb db d w st K s) (hpos : s.pos ≤ 8 * d.length) (hfin : st.place ≠ .inl (true, true)) :
    Calls Tryz.prog 21 #[.pointer (some ⟨rb, 0, none⟩)] w (RanG sp B rb db K d s.lim w (Gz.goOn d s.lim st s.pos)) := by
  obtain ⟨hL, hla, hat⟩ := hS
  obtain ⟨place, last, out⟩ := st
  have hL : Live sp B rb db K d out w s := hL
  have hla : s.la = last := hla
  have HLA := hide hla
  clear hla
  have hne := neq_err
  have hnn := neq_nil
  have k5 := hL.rd.c5
  rcases place with ⟨⟨⟩ | ⟨⟩, ⟨⟩ | ⟨⟩⟩ | t
  rotate_left 3
  · exact absurd rfl hfin
  rotate_left 1
  · skip
    have hpl : s.pl = 0 := hat
    rw [hpl] at k5
    have k5 : w.cell? ⟨rb, 5, none⟩ = some (.int .i64 0) := k5
    clear hat hpl
    go_enter Tryz.func21, Tryz.ntmps21
    go_wp2_with fail
    refine (head_any sp B rb db K s d out _ hL last hpos).mono ?_
    rintro e w1 hG
    obtain ⟨hf1, hres⟩ := hG
    cases hg : Gz.goOn d s.lim { place := .inl (false, false), last := last, out := out } s.pos with
    | ok okk =>
      obtain ⟨x, q⟩ := okk
      rw [hg] at hres
      have HG := hide hg
      clear hg
      obtain ⟨rfl, hst⟩ := hres
      go_wp2
      go_ret
      refine ⟨hf1, ?_⟩
      try rw [HG.out]
      exact ⟨rfl, hst⟩
    | error k =>
      rw [hg] at hres
      have HG := hide hg
      clear hg
      obtain ⟨hs', ⟨rfl, p', m, rfl, hp'⟩ | ⟨h3, h8', v, m, rfl, hv⟩⟩ := hres
      · go_wp2
        refine bodyPost_panic rfl ⟨hf1, ?_⟩
        try rw [HG.out]
        exact ⟨hs', Or.inl ⟨rfl, p', m, rfl, hp'⟩⟩
      · obtain ⟨ty, p', rfl⟩ := hv.iface
        go_wp2
        go_ret
        refine ⟨hf1, ?_⟩
        try rw [HG.out]
        exact ⟨hs', Or.inr ⟨h3, h8', _, m, rfl, hv⟩⟩
  · skip
    have hpl : s.pl = 1 := hat
    rw [hpl] at k5
    have k5 : w.cell? ⟨rb, 5, none⟩ = some (.int .i64 1) := k5
    clear hat hpl
    have HG : Hid (Gz.goOn d s.lim { place := .inl (false, true), last := last, out := out } s.pos = (Gz.stored d s.lim out s.pos).bind fun o p1 => .ok ((.inl { place := Gz.ended last, last := last, out := o }), p1)) := rfl
    rw [stored_eq] at HG
    go_enter Tryz.func21, Tryz.ntmps21
    go_wp2_with fail
    refine (sizes_any sp B rb db K s d out _ hL hpos).mono ?_
    rintro e w1 ⟨hf1, hres⟩
    cases hz : ((Gz.num d 16 (8 * ((s.pos + 7) / 8))).bind fun n p1 => (Gz.num d 16 p1).bind fun m p2 => if m + n ≠ 65535 then (Except.error 4 : Gz.Out Nat) else .ok (n, p2)) with
    | error k =>
      have HD : Hid (Gz.goOn d s.lim { place := .inl (false, true), last := last, out := out } s.pos = .error k) := by unfold Hid; rw [HG.out, hz]; rfl
      rw [hz] at hres
      clear hz
      obtain ⟨hs', ⟨rfl, p', m, rfl, hp'⟩ | ⟨h3, h8', v, m, rfl, hv⟩⟩ := hres
      · go_wp2
        refine bodyPost_panic rfl ⟨hf1, ?_⟩
        rw [HD.out]
        exact ⟨hs', Or.inl ⟨rfl, p', m, rfl, hp'⟩⟩
      · obtain ⟨ty, p', rfl⟩ := hv.iface
        go_wp2
        go_ret
        refine ⟨hf1, ?_⟩
        rw [HD.out]
        exact ⟨hs', Or.inr ⟨h3, h8', _, m, rfl, hv⟩⟩
    | ok okk =>
      obtain ⟨n, q⟩ := okk
      have HG2 : Hid (Gz.goOn d s.lim { place := .inl (false, true), last := last, out := out } s.pos = (Gz.bytes d s.lim n out q).bind fun o p1 => .ok ((.inl { place := Gz.ended last, last := last, out := o }), p1)) := by unfold Hid; rw [HG.out, hz]; rfl
      rw [hz] at hres
      clear hz
      obtain ⟨rfl, hn6, hq8, hL1⟩ := hres
      go_wp2_with fail
      refine (storedBytes_any sp B rb db K _ d out _ hL1 hn6 hq8).mono ?_
      rintro e w2 ⟨hf2, hres⟩
      have hfw := hf1.trans hf2
      cases hb : Gz.bytes d s.lim n out q with
      | error k =>
        have HD : Hid (Gz.goOn d s.lim { place := .inl (false, true), last := last, out := out } s.pos = .error k) := by unfold Hid; rw [HG2.out, hb]; rfl
        rw [hb] at hres
        clear hb
        obtain ⟨hs', ⟨rfl, p', m, rfl, hp'⟩ | ⟨h3, h8', v, m, rfl, hv⟩⟩ := hres
        · go_wp2
          refine bodyPost_panic rfl ⟨hfw, ?_⟩
          rw [HD.out]
          exact ⟨hs', Or.inl ⟨rfl, p', m, rfl, hp'⟩⟩
        · obtain ⟨ty, p', rfl⟩ := hv.iface
          go_wp2
          go_ret
          refine ⟨hfw, ?_⟩
          rw [HD.out]
          exact ⟨hs', Or.inr ⟨h3, h8', _, m, rfl, hv⟩⟩
      | ok okk =>
        obtain ⟨o, q2⟩ := okk
        have HD : Hid (Gz.goOn d s.lim { place := .inl (false, true), last := last, out := out } s.pos = .ok ((.inl { place := Gz.ended last, last := last, out := o }), q2)) := by unfold Hid; rw [HG2.out, hb]; rfl
        rw [hb] at hres
        clear hb
        obtain ⟨rfl, ov', bg', le', hL2⟩ := hres
        go_wp2
        go_ret
        refine ⟨hfw, ?_⟩
        rw [HD.out]
        exact ⟨rfl, _, K, _, rfl, fun _ h => h, ⟨hL2, HLA.out, endPl_place _ _ s last HLA.out _ rfl⟩, rfl, rfl⟩
  · skip
    have hpl : s.pl = 3 := hat
    rw [hpl] at k5
    have k5 : w.cell? ⟨rb, 5, none⟩ = some (.int .i64 3) := k5
    clear hat hpl
    have HG : Hid (Gz.goOn d s.lim { place := .inl (true, false), last := last, out := out } s.pos = (Gz.codes d s.pos).bind fun t p1 => (Gz.syms d t s.lim out p1).bind fun o p2 => .ok ((.inl { place := Gz.ended last, last := last, out := o }), p2)) := rfl
    go_enter Tryz.func21, Tryz.ntmps21
    go_wp2_with fail
    refine (codes_any sp rb db s d _ hL.dlen (hL.ne hL.dbK) hL.r13 (hL.klt db hL.dbK) hL.env hL.rd hL.dat hpos).mono ?_
    rintro e w1 ⟨hf1, hres⟩
    cases hz : Gz.codes d s.pos with
    | error k =>
      have HD : Hid (Gz.goOn d s.lim { place := .inl (true, false), last := last, out := out } s.pos = .error k) := by unfold Hid; rw [HG.out, hz]; rfl
      rw [hz] at hres
      clear hz
      obtain ⟨hs', ⟨rfl, p', m, rfl, hp'⟩ | ⟨h3, h8', v, m, rfl, hv⟩⟩ := hres
      · go_wp2
        refine bodyPost_panic rfl ⟨hL.up1 hf1, ?_⟩
        rw [HD.out]
        exact ⟨hs', Or.inl ⟨rfl, p', m, rfl, hp'⟩⟩
      · obtain ⟨ty, p', rfl⟩ := hv.iface
        go_wp2
        go_ret
        refine ⟨hL.up1 hf1, ?_⟩
        rw [HD.out]
        exact ⟨hs', Or.inr ⟨h3, h8', _, m, rfl, hv⟩⟩
    | ok okk =>
      obtain ⟨t, q⟩ := okk
      have hq8 := codes_ok hz
      have HG2 : Hid (Gz.goOn d s.lim { place := .inl (true, false), last := last, out := out } s.pos = (Gz.syms d t s.lim out q).bind fun o p1 => .ok ((.inl { place := Gz.ended last, last := last, out := o }), p1)) := by unfold Hid; rw [HG.out, hz]; rfl
      rw [hz] at hres
      clear hz
      obtain ⟨rfl, tb, s1, s2, ht0, ht1, ht2, ht3, ht4, ht5, hTab, hr1⟩ := hres
      have hL1 := hL.grow (hL.of hf1 hr1 rfl rfl rfl) rfl [tb, s1, s2] (by
        intro k hk
        simp only [List.mem_cons, List.not_mem_nil, or_false] at hk
        rcases hk with rfl | rfl | rfl <;> omega)
      go_wp2_with fail
      refine (symbols_any sp B rb db tb s1 s2 _ _ d out t _ hL1 hTab.more rfl rfl hq8).mono ?_
      rintro e w2 ⟨hf2, hres⟩
      have hfw := (hL.up1 hf1).trans (hf2.up (fun _ h => List.mem_append_right _ h))
      cases hb : Gz.syms d t s.lim out q with
      | error k =>
        have HD : Hid (Gz.goOn d s.lim { place := .inl (true, false), last := last, out := out } s.pos = .error k) := by unfold Hid; rw [HG2.out, hb]; rfl
        rw [hb] at hres
        clear hb
        obtain ⟨hs', ⟨rfl, p', m, rfl, hp'⟩ | ⟨h3, h8', v, m, rfl, hv⟩⟩ := hres
        · go_wp2
          refine bodyPost_panic rfl ⟨hfw, ?_⟩
          rw [HD.out]
          exact ⟨hs', Or.inl ⟨rfl, p', m, rfl, hp'⟩⟩
        · obtain ⟨ty, p', rfl⟩ := hv.iface
          go_wp2
          go_ret
          refine ⟨hfw, ?_⟩
          rw [HD.out]
          exact ⟨hs', Or.inr ⟨h3, h8', _, m, rfl, hv⟩⟩
      | ok okk =>
        obtain ⟨o, q2⟩ := okk
        have HD : Hid (Gz.goOn d s.lim { place := .inl (true, false), last := last, out := out } s.pos = .ok ((.inl { place := Gz.ended last, last := last, out := o }), q2)) := by unfold Hid; rw [HG2.out, hb]; rfl
        rw [hb] at hres
        clear hb
        obtain ⟨rfl, ov', bg', hL2⟩ := hres
        go_wp2
        go_ret
        refine ⟨hfw, ?_⟩
        rw [HD.out]
        exact ⟨rfl, _, _, _, rfl, fun _ h => List.mem_append_right _ h, ⟨hL2, HLA.out, endPl_place _ _ s last HLA.out _ rfl⟩, rfl, rfl⟩
  · skip
    obtain ⟨hpl, tb, s1, s2, hTab, htb⟩ := hat
    have hpl : s.pl = 4 := hpl
    have HPL := hide hpl
    rw [hpl] at k5
    have k5 : w.cell? ⟨rb, 5, none⟩ = some (.int .i64 4) := k5
    clear hpl
    have HTB := hide htb
    clear htb
    have HG2 : Hid (Gz.goOn d s.lim { place := .inr t, last := last, out := out } s.pos = (Gz.syms d t s.lim out s.pos).bind fun o p1 => .ok ((.inl { place := Gz.ended last, last := last, out := o }), p1)) := rfl
    go_enter Tryz.func21, Tryz.ntmps21
    go_wp2_with fail
    refine (symbols_any sp B rb db tb s1 s2 K s d out t _ hL hTab HTB.out HPL.out hpos).mono ?_
    rintro e w2 ⟨hf2, hres⟩
    have hfw := hf2
    cases hb : Gz.syms d t s.lim out s.pos with
    | error k =>
      have HD : Hid (Gz.goOn d s.lim { place := .inr t, last := last, out := out } s.pos = .error k) := by unfold Hid; rw [HG2.out, hb]; rfl
      rw [hb] at hres
      clear hb
      obtain ⟨hs', ⟨rfl, p', m, rfl, hp'⟩ | ⟨h3, h8', v, m, rfl, hv⟩⟩ := hres
      · go_wp2
        refine bodyPost_panic rfl ⟨hfw, ?_⟩
        rw [HD.out]
        exact ⟨hs', Or.inl ⟨rfl, p', m, rfl, hp'⟩⟩
      · obtain ⟨ty, p', rfl⟩ := hv.iface
        go_wp2
        go_ret
        refine ⟨hfw, ?_⟩
        rw [HD.out]
        exact ⟨hs', Or.inr ⟨h3, h8', _, m, rfl, hv⟩⟩
    | ok okk =>
      obtain ⟨o, q2⟩ := okk
      have HD : Hid (Gz.goOn d s.lim { place := .inr t, last := last, out := out } s.pos = .ok ((.inl { place := Gz.ended last, last := last, out := o }), q2)) := by unfold Hid; rw [HG2.out, hb]; rfl
      rw [hb] at hres
      clear hb
      obtain ⟨rfl, ov', bg', hL2⟩ := hres
      go_wp2
      go_ret
      refine ⟨hfw, ?_⟩
      rw [HD.out]
      exact ⟨rfl, _, _, _, rfl, fun _ h => h, ⟨hL2, HLA.out, endPl_place _ _ s last HLA.out _ rfl⟩, rfl, rfl⟩
end Go.Proofs.YtobohjjkcdhfeaaGreatDoor
