import Derived.Test.YtjjjlilflbddoaaGreatDoorLive
import Derived.Test.YtjjjlilflbddoaaGreatDoorQM
import Derived.Deep.DeepCutAuto
namespace Go.Proofs.YtjjjlilflbddoaaGreatDoor
open Go.RowKit

theorem len_step (a b : Nat) (ha : a ≤ 258) (hb : b ≤ 32) : IntKind.i64.wrap ((a : Int) + (b : Int)) = ((a + b : Nat) : Int) := by
  rw [wraps_i64 _ (by omega) (by omega)]; omega

theorem Live.drew {sp : Nat → Addr} {B rb db : Nat} {K : List Nat} {d out : List UInt8} {w : World} {s : RS} (h : Live sp B rb db K d out w s) : Live sp B rb db K d out w.drew s :=
  ⟨h.env.fr (Fr.refl No w).drew (fun _ _ => no_no _), h.rd, h.dat, h.row, h.apart, h.b13, h.bsz, h.brb, h.dbK, h.rbK, h.klt, h.lim, h.len, h.dlen⟩

set_option maxHeartbeats 1600000 in
theorem repeat_short (sp : Nat → Addr) (B rb db sy : Nat) (K : List Nat) (s : RS) (d out : List UInt8) (t : Gz.Table) (w : World) (hL : Live sp B rb db K d out w s)
    (hsy1 : 257 ≤ sy) (hsy2 : sy ≤ 285) (hpos : s.pos ≤ 8 * d.length) (hl : ¬ s.pos + Gz.lenBits sy ≤ 8 * d.length) :
    Calls Tryz.prog 138 #[.pointer (some ⟨rb, 0, none⟩), .int .i64 sy] w
      (Ran3 sp B rb db K d w s (fun o q w' => ∃ ov', Live sp B rb db K d o w' { s with pos := q, ov := ov' }) (Gz.rep d t s.lim sy out s.pos) (Gz.repO d t s.lim sy out s.pos)) := by
  have hlb := lenBits_le sy hsy2
  have hdb := hL.ne hL.dbK
  obtain ⟨k0, hk0⟩ : ∃ k0, k0 = sy - 257 := ⟨_, rfl⟩
  have hlen0 := hL.env.len k0 (by omega)
  have hw0 : IntKind.i64.wrap ((sy : Int) - 257) = (k0 : Int) := by rw [wraps_i64 _ (by omega) (by omega)]; omega
  have hk29 : (k0 : Int) < 29 := by omega
  clear hk0
  have hb0 : 0 < Gz.lenBits sy := by omega
  have HD : Hid (Gz.rep d t s.lim sy out s.pos = .error 2) := by
    unfold Hid Gz.rep; simp only [Gz.num, if_neg hl, Gz.Out.bind]
  have HO : Hid (Gz.repO d t s.lim sy out s.pos = out) := by
    unfold Hid Gz.repO; simp only [Gz.num, if_neg hl]
  go_enter Tryz.func138, Tryz.ntmps138
  go_wp2
  refine wp_region_any (by kernel_rfl) ?_
  change wpAny _ _ _ _ _ _ _ (World.drew _)
  refine wpAny_take (i := 0) (v := ?_) rfl (by kernel_rfl) (by kernel_rfl) (by kernel_rfl) (fun _ _ _ h => h) (Or.inl ⟨by rfl, by intro w; go_simp; with_reducible rfl⟩) ?_
  refine wpAny_take (i := 1) (v := ?_) rfl (by kernel_rfl) (by kernel_rfl) (by kernel_rfl) (fun _ _ _ h => h) (Or.inl ⟨by rfl, by intro w; go_simp; with_reducible rfl⟩) ?_
  refine wpAny_take (i := 2) (v := ?_) rfl (by kernel_rfl) (by kernel_rfl) (by kernel_rfl) (fun _ _ _ h => h) (Or.inl ⟨by rfl, by intro w; go_simp; with_reducible rfl⟩) ?_
  refine wpAny_take (i := 4) (v := ?_) rfl (by kernel_rfl) (by kernel_rfl) (by kernel_rfl) (fun _ _ _ h => h) (Or.inl ⟨by rfl, by intro w; go_simp; with_reducible rfl⟩) ?_
  refine wpAny_take (i := 5) (v := ?_) rfl (by kernel_rfl) (by kernel_rfl) (by kernel_rfl) (fun _ _ _ h => h) (Or.inl ⟨by rfl, by intro w; go_simp; with_reducible rfl⟩) ?_
  refine wpAny_ready (rs := [3, 6]) (by kernel_rfl) (by simp) ?_
  refine AllReady.cons rfl (fun K hK => ?_) ?_
  · go_simp
    refine hK _ _ ?_
    clear hK K
    refine wpAny_ready (rs := [6]) (by kernel_rfl) (by simp) ?_
    refine AllReady.cons rfl (fun K hK => ?_) AllReady.nil
    go_simp
    refine (lengthBits_any sy _ (by omega)).mono ?_
    rintro e w2 ⟨rfl, rfl⟩
    refine hK _ _ ?_
    clear hK K
    refine wpAny_ready (rs := [7]) (by kernel_rfl) (by simp) ?_
    refine AllReady.cons rfl (fun K hK => ?_) AllReady.nil
    go_simp
    refine (number_short rb db s d (Gz.lenBits sy) _ hL.dlen hdb (by exact hL.rd) (by exact hL.dat) (by omega) hb0 hl).mono ?_
    rintro e w1 ⟨⟨p, m, rfl, hp⟩, ⟨q2, hr2⟩, hf2⟩
    refine bodyPost_panic rfl ⟨hL.one (Fr.trans ((Fr.refl _ _).drew) hf2), ?_⟩
    rw [HD.out, HO.out]
    exact ⟨⟨q2, s.ov, hL.of (Fr.trans ((Fr.refl _ _).drew) hf2) hr2 rfl rfl rfl⟩, Or.inl ⟨rfl, p, m, rfl, hp⟩⟩
  refine AllReady.cons rfl (fun K hK => ?_) AllReady.nil
  go_simp
  refine (lengthBits_any sy _ (by omega)).mono ?_
  rintro e w2 ⟨rfl, rfl⟩
  refine hK _ _ ?_
  clear hK K
  refine wpAny_ready (rs := [3, 7]) (by kernel_rfl) (by simp) ?_
  refine AllReady.cons rfl (fun K hK => ?_) ?_
  · go_simp
    refine hK _ _ ?_
    clear hK K
    refine wpAny_ready (rs := [7]) (by kernel_rfl) (by simp) ?_
    refine AllReady.cons rfl (fun K hK => ?_) AllReady.nil
    go_simp
    refine (number_short rb db s d (Gz.lenBits sy) _ hL.dlen hdb (by exact hL.rd) (by exact hL.dat) (by omega) hb0 hl).mono ?_
    rintro e w1 ⟨⟨p, m, rfl, hp⟩, ⟨q2, hr2⟩, hf2⟩
    refine bodyPost_panic rfl ⟨hL.one (Fr.trans ((Fr.refl _ _).drew) hf2), ?_⟩
    rw [HD.out, HO.out]
    exact ⟨⟨q2, s.ov, hL.of (Fr.trans ((Fr.refl _ _).drew) hf2) hr2 rfl rfl rfl⟩, Or.inl ⟨rfl, p, m, rfl, hp⟩⟩
  refine AllReady.cons rfl (fun K hK => ?_) AllReady.nil
  go_simp
  refine (number_short rb db s d (Gz.lenBits sy) _ hL.dlen hdb (by exact hL.rd) (by exact hL.dat) (by omega) hb0 hl).mono ?_
  rintro e w1 ⟨⟨p, m, rfl, hp⟩, ⟨q2, hr2⟩, hf2⟩
  refine bodyPost_panic rfl ⟨hL.one (Fr.trans ((Fr.refl _ _).drew) hf2), ?_⟩
  rw [HD.out, HO.out]
  exact ⟨⟨q2, s.ov, hL.of (Fr.trans ((Fr.refl _ _).drew) hf2) hr2 rfl rfl rfl⟩, Or.inl ⟨rfl, p, m, rfl, hp⟩⟩

set_option maxHeartbeats 4000000 in
theorem repeat_long (sp : Nat → Addr) (B rb db tb s1 s2 sy : Nat) (K : List Nat) (s : RS) (d out : List UInt8) (t : Gz.Table) (w : World) (hL : Live sp B rb db K d out w s) (hT : TableAt w K tb s1 s2 t) (hst : s.tb = .pointer (some ⟨tb, 0, none⟩))
    (hsy1 : 257 ≤ sy) (hsy2 : sy ≤ 285) (hl : s.pos + Gz.lenBits sy ≤ 8 * d.length) :
    Calls Tryz.prog 138 #[.pointer (some ⟨rb, 0, none⟩), .int .i64 sy] w
      (Ran3 sp B rb db K d w s (fun o q w' => ∃ ov', Live sp B rb db K d o w' { s with pos := q, ov := ov' }) (Gz.rep d t s.lim sy out s.pos) (Gz.repO d t s.lim sy out s.pos)) := by
  have hne := neq_err
  have hnn := neq_nil
  have hlb := lenBits_le sy hsy2
  have hdb := hL.ne hL.dbK
  obtain ⟨k0, hk0⟩ : ∃ k0, k0 = sy - 257 := ⟨_, rfl⟩
  have hlen0 := hL.env.len k0 (by omega)
  have hw0 : IntKind.i64.wrap ((sy : Int) - 257) = (k0 : Int) := by rw [wraps_i64 _ (by omega) (by omega)]; omega
  have hk29 : (k0 : Int) < 29 := by omega
  have HK0 := hide hk0
  clear hk0
  have HST := hide hst
  clear hst
  have hfb := lenFrom_le k0
  have hvb := val_lt d s.pos (Gz.lenBits sy)
  have hpb : 2 ^ Gz.lenBits sy ≤ 2 ^ 5 := Nat.pow_le_pow_right (by decide) hlb
  go_enter Tryz.func138, Tryz.ntmps138
  go_upto_region 1 with fail
  go_cut [5] (fun v wx => v = .int .i64 ((Gz.lenFrom[k0]?.getD 0 + Gz.val d s.pos (Gz.lenBits sy) : Nat) : Int) ∧ Rd wx rb { s with pos := s.pos + Gz.lenBits sy } ∧ Fr (One rb) w wx)
  case first =>
    refine wp_region_any (by kernel_rfl) ?_
    change wpAny _ _ _ _ _ _ _ (World.drew _)
    refine wpAny_take (i := 0) (v := ?_) rfl (by kernel_rfl) (by kernel_rfl) (by kernel_rfl) (fun _ _ _ h => h) (Or.inl ⟨by rfl, by intro w; go_simp; with_reducible rfl⟩) ?_
    refine wpAny_take (i := 1) (v := ?_) rfl (by kernel_rfl) (by kernel_rfl) (by kernel_rfl) (fun _ _ _ h => h) (Or.inl ⟨by rfl, by intro w; go_simp; with_reducible rfl⟩) ?_
    refine wpAny_take (i := 2) (v := ?_) rfl (by kernel_rfl) (by kernel_rfl) (by kernel_rfl) (fun _ _ _ h => h) (Or.inl ⟨by rfl, by intro w; go_simp; with_reducible rfl⟩) ?_
    refine wpAny_take (i := 4) (v := ?_) rfl (by kernel_rfl) (by kernel_rfl) (by kernel_rfl) (fun _ _ _ h => h) (Or.inl ⟨by rfl, by intro w; go_simp; with_reducible rfl⟩) ?_
    refine wpAny_take (i := 5) (v := ?_) rfl (by kernel_rfl) (by kernel_rfl) (by kernel_rfl) (fun _ _ _ h => h) (Or.inl ⟨by rfl, by intro w; go_simp; with_reducible rfl⟩) ?_
    refine wpAny_ready (rs := [3, 6]) (by kernel_rfl) (by simp) ?_
    refine AllReady.cons rfl (fun K hK => ?_) ?_
    · go_simp
      refine hK _ _ ?_
      clear hK K
      refine wpAny_ready (rs := [6]) (by kernel_rfl) (by simp) ?_
      refine AllReady.cons rfl (fun K hK => ?_) AllReady.nil
      go_simp
      refine (lengthBits_any sy _ (by omega)).mono ?_
      rintro e w2 ⟨rfl, rfl⟩
      refine hK _ _ ?_
      clear hK K
      refine wpAny_ready (rs := [7]) (by kernel_rfl) (by simp) ?_
      refine AllReady.cons rfl (fun K hK => ?_) AllReady.nil
      go_simp
      refine (number_ok rb db s d (Gz.lenBits sy) _ hL.dlen hdb (by exact hL.rd) (by exact hL.dat) (by omega) hl).mono ?_
      rintro e w1 ⟨rfl, hr1, hf1⟩
      have hlen2 := (hL.env.fr (Fr.trans ((Fr.refl _ _).drew) hf1) (fun k hk => one_ne (by have := hL.r13; omega))).len k0 (by omega)
      refine hK _ _ ?_
      clear hK K
      refine wpAny_take (i := 8) (v := ?_) rfl (by kernel_rfl) (by kernel_rfl) (by kernel_rfl) (fun _ _ _ h => h) (Or.inl ⟨by rfl, by intro w; go_simp; with_reducible rfl⟩) ?_
      refine wpAny_take (i := 9) (v := ?_) rfl (by kernel_rfl) (by kernel_rfl) (by kernel_rfl) (fun _ _ _ h => h) (Or.inl ⟨by rfl, by intro w; go_simp; with_reducible rfl⟩) ?_
      refine wpAny_done (by kernel_rfl) ?_ _
      go_wp2_with fail
      go_meet
      exact ⟨congrArg (Value.int .i64) (len_step _ _ hfb (by omega)), hr1, Fr.trans ((Fr.refl _ _).drew) hf1⟩
    refine AllReady.cons rfl (fun K hK => ?_) AllReady.nil
    go_simp
    refine (lengthBits_any sy _ (by omega)).mono ?_
    rintro e w2 ⟨rfl, rfl⟩
    refine hK _ _ ?_
    clear hK K
    refine wpAny_ready (rs := [3, 7]) (by kernel_rfl) (by simp) ?_
    refine AllReady.cons rfl (fun K hK => ?_) ?_
    · go_simp
      refine hK _ _ ?_
      clear hK K
      refine wpAny_ready (rs := [7]) (by kernel_rfl) (by simp) ?_
      refine AllReady.cons rfl (fun K hK => ?_) AllReady.nil
      go_simp
      refine (number_ok rb db s d (Gz.lenBits sy) _ hL.dlen hdb (by exact hL.rd) (by exact hL.dat) (by omega) hl).mono ?_
      rintro e w1 ⟨rfl, hr1, hf1⟩
      have hlen2 := (hL.env.fr (Fr.trans ((Fr.refl _ _).drew) hf1) (fun k hk => one_ne (by have := hL.r13; omega))).len k0 (by omega)
      refine hK _ _ ?_
      clear hK K
      refine wpAny_take (i := 8) (v := ?_) rfl (by kernel_rfl) (by kernel_rfl) (by kernel_rfl) (fun _ _ _ h => h) (Or.inl ⟨by rfl, by intro w; go_simp; with_reducible rfl⟩) ?_
      refine wpAny_take (i := 9) (v := ?_) rfl (by kernel_rfl) (by kernel_rfl) (by kernel_rfl) (fun _ _ _ h => h) (Or.inl ⟨by rfl, by intro w; go_simp; with_reducible rfl⟩) ?_
      refine wpAny_done (by kernel_rfl) ?_ _
      go_wp2_with fail
      go_meet
      exact ⟨congrArg (Value.int .i64) (len_step _ _ hfb (by omega)), hr1, Fr.trans ((Fr.refl _ _).drew) hf1⟩
    refine AllReady.cons rfl (fun K hK => ?_) AllReady.nil
    go_simp
    refine (number_ok rb db s d (Gz.lenBits sy) _ hL.dlen hdb (by exact hL.rd) (by exact hL.dat) (by omega) hl).mono ?_
    rintro e w1 ⟨rfl, hr1, hf1⟩
    have hlen2 := (hL.env.fr (Fr.trans ((Fr.refl _ _).drew) hf1) (fun k hk => one_ne (by have := hL.r13; omega))).len k0 (by omega)
    refine hK _ _ ?_
    clear hK K
    refine wpAny_ready (rs := [3]) (by kernel_rfl) (by simp) ?_
    refine AllReady.cons rfl (fun K hK => ?_) AllReady.nil
    go_simp
    refine hK _ _ ?_
    clear hK K
    refine wpAny_take (i := 8) (v := ?_) rfl (by kernel_rfl) (by kernel_rfl) (by kernel_rfl) (fun _ _ _ h => h) (Or.inl ⟨by rfl, by intro w; go_simp; with_reducible rfl⟩) ?_
    refine wpAny_take (i := 9) (v := ?_) rfl (by kernel_rfl) (by kernel_rfl) (by kernel_rfl) (fun _ _ _ h => h) (Or.inl ⟨by rfl, by intro w; go_simp; with_reducible rfl⟩) ?_
    refine wpAny_done (by kernel_rfl) ?_ _
    go_wp2_with fail
    go_meet
    exact ⟨congrArg (Value.int .i64) (len_step _ _ hfb (by omega)), hr1, Fr.trans ((Fr.refl _ _).drew) hf1⟩
  case rest =>
    obtain ⟨rfl, hr1, hf1⟩ := hcut
    have hL1 := hL.of hf1 hr1 rfl rfl rfl
    have hT1 := hT.fr (hL.one hf1)
    generalize hLn : Gz.lenFrom[k0]?.getD 0 + Gz.val d s.pos (Gz.lenBits sy) = n at *
    have hn : n ≤ 300 := by omega
    have HLN := hide hLn
    clear hLn hlen0 hw0
    go_wp2_with fail
    refine (distance_any sp rb db tb s2 { s with pos := s.pos + Gz.lenBits sy } d t.dists _ hL1.dlen hdb (hL1.ne hT1.k0) (hL1.ne hT1.k2) hL1.r13 hL1.env hr1 hL1.dat HST.out hT1.dists hT1.g2).mono ?_
    rintro e w2 ⟨hf2, hres⟩
    have HREP : Hid (Gz.rep d t s.lim sy out s.pos = (Gz.dist d t.dists (s.pos + Gz.lenBits sy)).bind fun far p2 => if out.length < far then .error 7 else match Gz.copyGo s.lim far n out with | none => .error 8 | some o => .ok (o, p2)) := by
      unfold Hid Gz.rep
      simp only [Gz.num, if_pos hl, Gz.Out.bind, ← HK0.out]
      rw [show Gz.lenFrom.getD k0 0 = Gz.lenFrom[k0]?.getD 0 from rfl, HLN.out]
      rfl
    cases hds : Gz.dist d t.dists (s.pos + Gz.lenBits sy) with
    | error k =>
      have HD : Hid (Gz.rep d t s.lim sy out s.pos = .error k) := by unfold Hid; rw [HREP.out, hds]; rfl
      have HO : Hid (Gz.repO d t s.lim sy out s.pos = out) := by unfold Hid Gz.repO; simp only [Gz.num, if_pos hl]; rw [hds]
      rw [hds] at hres
      clear hds
      obtain ⟨⟨q, hr2⟩, ⟨rfl, hsh⟩ | ⟨h3, h8', v, m, rfl, hv⟩⟩ := hres
      · obtain ⟨p, m, rfl, hp⟩ := hsh
        go_wp2
        refine bodyPost_panic rfl ⟨hL.one (hf1.trans hf2), ?_⟩
        rw [HD.out, HO.out]
        exact ⟨⟨_, _, hL1.of hf2 hr2 rfl rfl rfl⟩, Or.inl ⟨rfl, p, m, rfl, hp⟩⟩
      · obtain ⟨ty, p, rfl⟩ := hv.iface
        go_wp2
        go_ret
        refine ⟨hL.one (hf1.trans hf2), ?_⟩
        rw [HD.out, HO.out]
        exact ⟨⟨_, _, hL1.of hf2 hr2 rfl rfl rfl⟩, Or.inr ⟨h3, h8', _, m, rfl, hv⟩⟩
    | ok okk =>
      obtain ⟨far, q⟩ := okk
      rw [hds] at hres
      obtain ⟨rfl, hr2⟩ := hres
      have hL2 := hL1.of hf2 hr2 rfl rfl rfl
      obtain ⟨ao, cap, hov⟩ := hL2.form
      have h4 := hr2.c4
      rw [hov] at h4
      have HOV := hide hov
      clear hov
      have hsent : w2.cell? ⟨4, 0, none⟩ = some (.iface 248 (.pointer (some (sp 7)))) := hL2.env.err 7 (by omega) (by omega)
      have hol := hL.len
      have hlim := hL.lim
      by_cases hfar : out.length < far
      · have HD : Hid (Gz.rep d t s.lim sy out s.pos = .error 7) := by unfold Hid; rw [HREP.out, hds]; simp only [Gz.Out.bind, if_pos hfar]
        have HO : Hid (Gz.repO d t s.lim sy out s.pos = out) := by unfold Hid Gz.repO; simp only [Gz.num, if_pos hl]; rw [hds]; simp only [if_pos hfar]
        clear hds
        go_wp2
        go_ret
        refine ⟨(hL.one (hf1.trans hf2)).alloc _, ?_⟩
        rw [HD.out, HO.out]
        exact ⟨⟨_, _, hL2.of ((Fr.refl _ _).alloc _) (hr2.alloc _) rfl rfl rfl⟩, Or.inr ⟨by omega, by omega, _, 1, rfl, .fault _ _ _ _ _ (alloc_at w2 _) (.sent 7 (by omega) (by omega))⟩⟩
      · have HD : Hid (Gz.rep d t s.lim sy out s.pos = match Gz.copyGo s.lim far n out with | none => .error 8 | some o => .ok (o, q)) := by unfold Hid; rw [HREP.out, hds]; simp only [Gz.Out.bind, if_neg hfar]
        have HO : Hid (Gz.repO d t s.lim sy out s.pos = Gz.copyO s.lim far n out) := by
          unfold Hid Gz.repO
          simp only [Gz.num, if_pos hl, ← HK0.out]
          rw [hds]
          simp only [if_neg hfar]
          rw [show Gz.lenFrom.getD k0 0 = Gz.lenFrom[k0]?.getD 0 from rfl, HLN.out]
        have hdpos : 0 < far := dist_pos hds
        clear hds
        go_wp2_with fail
        go_loopw [38] (fun i wr => ∃ (k : Nat) (o : List UInt8) (ov' : Value), k ≤ n ∧ i = .int .i64 k ∧ Gz.copyGo s.lim far (n - k) o = Gz.copyGo s.lim far n out ∧ Gz.copyO s.lim far (n - k) o = Gz.copyO s.lim far n out ∧ far ≤ o.length ∧ Live sp B rb db K d o wr { s with pos := q, ov := ov' } ∧ Fr (Own B K) w wr) (fun i _ => n - (intOf i).toNat)
        case atStart => exact ⟨0, out, s.ov, Nat.zero_le _, rfl, rfl, rfl, by omega, hL2, hL.one (hf1.trans hf2)⟩
        case round =>
          obtain ⟨k, o, ov', hk, rfl, hgo, hgo2, hfo, hLr, hfr⟩ := hrel
          have HGO := hide hgo
          have HGO2 := hide hgo2
          clear hgo hgo2
          by_cases hkn : k < n
          · have hol2 := hLr.len
            have hol3 : o.length ≤ 6000 := by have := hLr.lim; have e : o.length ≤ s.lim := hol2; omega
            obtain ⟨g, cap2, hov2, hbyte⟩ := hLr.byte (i := o.length - far) (by omega)
            have hov2' : ov' = .slice (some ⟨g, 0, none⟩) o.length cap2 := hov2
            subst hov2'
            have k4 := hLr.rd.c4
            have hwl : IntKind.i64.wrap ((o.length : Int) - (far : Int)) = ((o.length - far : Nat) : Int) := by rw [wraps_i64 _ (by omega) (by omega)]; omega
            obtain ⟨ix, hix⟩ : ∃ ix, ix = o.length - far := ⟨_, rfl⟩
            rw [← hix] at hwl hbyte
            have hixl : (ix : Int) < o.length := by omega
            have HIX := hide hix
            clear hix
            go_upto_region 9 with fail
            go_cut [8] (fun v wx => (v = .nilIface ∧ o.length < s.lim ∧ ∃ ov2, Live sp B rb db K d (o ++ [o.getD ix 0]) wx { s with pos := q, ov := ov2 } ∧ Fr (Own B K) w wx) ∨ (v = .iface 248 (.pointer (some (sp 8))) ∧ ¬ o.length < s.lim ∧ Live sp B rb db K d o wx { s with pos := q, ov := .slice (some ⟨g, 0, none⟩) o.length cap2 } ∧ Fr (Own B K) w wx))
            case first =>
              by_cases hlo : o.length < s.lim
              · refine wp_region_any (by kernel_rfl) ?_
                change wpAny _ _ _ _ _ _ _ (World.drew _)
                refine wpAny_take (i := 0) (v := ?_) rfl (by kernel_rfl) (by kernel_rfl) (by kernel_rfl) (fun _ _ _ h => h) (Or.inl ⟨by rfl, by intro w; go_simp; with_reducible rfl⟩) ?_
                refine wpAny_take (i := 1) (v := ?_) rfl (by kernel_rfl) (by kernel_rfl) (by kernel_rfl) (fun _ _ _ h => h) (Or.inl ⟨by rfl, by intro w; go_simp; with_reducible rfl⟩) ?_
                refine wpAny_take (i := 2) (v := ?_) rfl (by kernel_rfl) (by kernel_rfl) (by kernel_rfl) (fun _ _ _ h => h) (Or.inl ⟨by rfl, by intro w; go_simp; with_reducible rfl⟩) ?_
                refine wpAny_take (i := 3) (v := ?_) rfl (by kernel_rfl) (by kernel_rfl) (by kernel_rfl) (fun _ _ _ h => h) (Or.inl ⟨by rfl, by intro w; go_simp; with_reducible rfl⟩) ?_
                refine wpAny_take (i := 5) (v := ?_) rfl (by kernel_rfl) (by kernel_rfl) (by kernel_rfl) (fun _ _ _ h => h) (Or.inl ⟨by rfl, by intro w; go_simp; with_reducible rfl⟩) ?_
                refine wpAny_take (i := 6) (v := ?_) rfl (by kernel_rfl) (by kernel_rfl) (by kernel_rfl) (fun _ _ _ h => h) (Or.inl ⟨by rfl, by intro w; go_simp; with_reducible rfl⟩) ?_
                refine wpAny_take (i := 7) (v := ?_) rfl (by kernel_rfl) (by kernel_rfl) (by kernel_rfl) (fun _ _ _ h => h) (Or.inl ⟨by rfl, by intro w; go_simp; with_reducible rfl⟩) ?_
                refine wpAny_take (i := 10) (v := ?_) rfl (by kernel_rfl) (by kernel_rfl) (by kernel_rfl) (fun _ _ _ h => h) (Or.inl ⟨by rfl, by intro w; go_simp; with_reducible rfl⟩) ?_
                refine wpAny_ready (rs := [4, 8]) (by kernel_rfl) (by simp) ?_
                refine AllReady.cons rfl (fun K hK => ?_) ?_
                · go_simp
                  refine hK _ _ ?_
                  clear hK K
                  refine wpAny_ready (rs := [8]) (by kernel_rfl) (by simp) ?_
                  refine AllReady.cons rfl (fun K hK => ?_) AllReady.nil
                  go_simp
                  refine hK _ _ ?_
                  clear hK K
                  refine wpAny_take (i := 9) (v := ?_) rfl (by kernel_rfl) (by kernel_rfl) (by kernel_rfl) (fun _ _ _ h => h) (Or.inl ⟨by rfl, by intro w; go_simp; with_reducible rfl⟩) ?_
                  refine wpAny_take (i := 11) (v := ?_) rfl (by kernel_rfl) (by kernel_rfl) (by kernel_rfl) (fun _ _ _ h => h) (Or.inl ⟨by rfl, by intro w; go_simp; with_reducible rfl⟩) ?_
                  refine wpAny_take (i := 12) (v := ?_) rfl (by kernel_rfl) (by kernel_rfl) (by kernel_rfl) (fun _ _ _ h => h) (Or.inl ⟨by rfl, by intro w; go_simp; with_reducible rfl⟩) ?_
                  refine wpAny_ready (rs := [13]) (by kernel_rfl) (by simp) ?_
                  refine AllReady.cons rfl (fun K hK => ?_) AllReady.nil
                  go_simp
                  refine hK _ _ ?_
                  clear hK K
                  refine wpAny_ready (rs := [14]) (by kernel_rfl) (by simp) ?_
                  refine AllReady.cons rfl (fun K hK => ?_) AllReady.nil
                  go_simp
                  refine ((Live.put (w := World.drew wr) (by exact hLr.drew) (by exact hlo) _)).mono ?_
                  rintro e w2 ⟨rfl, ⟨ov2, hL2⟩, hf2⟩
                  refine hK _ _ ?_
                  clear hK K
                  refine wpAny_take (i := 15) (v := ?_) rfl (by kernel_rfl) (by kernel_rfl) (by kernel_rfl) (fun _ _ _ h => h) (Or.inl ⟨by rfl, by intro w; go_simp; with_reducible rfl⟩) ?_
                  refine wpAny_done (by kernel_rfl) ?_ _
                  go_wp2_with fail
                  go_meet
                  exact Or.inl ⟨rfl, hlo, ov2, hL2, hfr.trans (Fr.trans ((Fr.refl _ _).drew) hf2)⟩
                refine AllReady.cons rfl (fun K hK => ?_) AllReady.nil
                go_simp
                refine hK _ _ ?_
                clear hK K
                refine wpAny_take (i := 9) (v := ?_) rfl (by kernel_rfl) (by kernel_rfl) (by kernel_rfl) (fun _ _ _ h => h) (Or.inl ⟨by rfl, by intro w; go_simp; with_reducible rfl⟩) ?_
                refine wpAny_take (i := 11) (v := ?_) rfl (by kernel_rfl) (by kernel_rfl) (by kernel_rfl) (fun _ _ _ h => h) (Or.inl ⟨by rfl, by intro w; go_simp; with_reducible rfl⟩) ?_
                refine wpAny_ready (rs := [4]) (by kernel_rfl) (by simp) ?_
                refine AllReady.cons rfl (fun K hK => ?_) AllReady.nil
                go_simp
                refine hK _ _ ?_
                clear hK K
                refine wpAny_take (i := 12) (v := ?_) rfl (by kernel_rfl) (by kernel_rfl) (by kernel_rfl) (fun _ _ _ h => h) (Or.inl ⟨by rfl, by intro w; go_simp; with_reducible rfl⟩) ?_
                refine wpAny_ready (rs := [13]) (by kernel_rfl) (by simp) ?_
                refine AllReady.cons rfl (fun K hK => ?_) AllReady.nil
                go_simp
                refine hK _ _ ?_
                clear hK K
                refine wpAny_ready (rs := [14]) (by kernel_rfl) (by simp) ?_
                refine AllReady.cons rfl (fun K hK => ?_) AllReady.nil
                go_simp
                refine ((Live.put (w := World.drew wr) (by exact hLr.drew) (by exact hlo) _)).mono ?_
                rintro e w2 ⟨rfl, ⟨ov2, hL2⟩, hf2⟩
                refine hK _ _ ?_
                clear hK K
                refine wpAny_take (i := 15) (v := ?_) rfl (by kernel_rfl) (by kernel_rfl) (by kernel_rfl) (fun _ _ _ h => h) (Or.inl ⟨by rfl, by intro w; go_simp; with_reducible rfl⟩) ?_
                refine wpAny_done (by kernel_rfl) ?_ _
                go_wp2_with fail
                go_meet
                exact Or.inl ⟨rfl, hlo, ov2, hL2, hfr.trans (Fr.trans ((Fr.refl _ _).drew) hf2)⟩
              · refine wp_region_any (by kernel_rfl) ?_
                change wpAny _ _ _ _ _ _ _ (World.drew _)
                refine wpAny_take (i := 0) (v := ?_) rfl (by kernel_rfl) (by kernel_rfl) (by kernel_rfl) (fun _ _ _ h => h) (Or.inl ⟨by rfl, by intro w; go_simp; with_reducible rfl⟩) ?_
                refine wpAny_take (i := 1) (v := ?_) rfl (by kernel_rfl) (by kernel_rfl) (by kernel_rfl) (fun _ _ _ h => h) (Or.inl ⟨by rfl, by intro w; go_simp; with_reducible rfl⟩) ?_
                refine wpAny_take (i := 2) (v := ?_) rfl (by kernel_rfl) (by kernel_rfl) (by kernel_rfl) (fun _ _ _ h => h) (Or.inl ⟨by rfl, by intro w; go_simp; with_reducible rfl⟩) ?_
                refine wpAny_take (i := 3) (v := ?_) rfl (by kernel_rfl) (by kernel_rfl) (by kernel_rfl) (fun _ _ _ h => h) (Or.inl ⟨by rfl, by intro w; go_simp; with_reducible rfl⟩) ?_
                refine wpAny_take (i := 5) (v := ?_) rfl (by kernel_rfl) (by kernel_rfl) (by kernel_rfl) (fun _ _ _ h => h) (Or.inl ⟨by rfl, by intro w; go_simp; with_reducible rfl⟩) ?_
                refine wpAny_take (i := 6) (v := ?_) rfl (by kernel_rfl) (by kernel_rfl) (by kernel_rfl) (fun _ _ _ h => h) (Or.inl ⟨by rfl, by intro w; go_simp; with_reducible rfl⟩) ?_
                refine wpAny_take (i := 7) (v := ?_) rfl (by kernel_rfl) (by kernel_rfl) (by kernel_rfl) (fun _ _ _ h => h) (Or.inl ⟨by rfl, by intro w; go_simp; with_reducible rfl⟩) ?_
                refine wpAny_take (i := 10) (v := ?_) rfl (by kernel_rfl) (by kernel_rfl) (by kernel_rfl) (fun _ _ _ h => h) (Or.inl ⟨by rfl, by intro w; go_simp; with_reducible rfl⟩) ?_
                refine wpAny_ready (rs := [4, 8]) (by kernel_rfl) (by simp) ?_
                refine AllReady.cons rfl (fun K hK => ?_) ?_
                · go_simp
                  refine hK _ _ ?_
                  clear hK K
                  refine wpAny_ready (rs := [8]) (by kernel_rfl) (by simp) ?_
                  refine AllReady.cons rfl (fun K hK => ?_) AllReady.nil
                  go_simp
                  refine hK _ _ ?_
                  clear hK K
                  refine wpAny_take (i := 9) (v := ?_) rfl (by kernel_rfl) (by kernel_rfl) (by kernel_rfl) (fun _ _ _ h => h) (Or.inl ⟨by rfl, by intro w; go_simp; with_reducible rfl⟩) ?_
                  refine wpAny_take (i := 11) (v := ?_) rfl (by kernel_rfl) (by kernel_rfl) (by kernel_rfl) (fun _ _ _ h => h) (Or.inl ⟨by rfl, by intro w; go_simp; with_reducible rfl⟩) ?_
                  refine wpAny_take (i := 12) (v := ?_) rfl (by kernel_rfl) (by kernel_rfl) (by kernel_rfl) (fun _ _ _ h => h) (Or.inl ⟨by rfl, by intro w; go_simp; with_reducible rfl⟩) ?_
                  refine wpAny_ready (rs := [13]) (by kernel_rfl) (by simp) ?_
                  refine AllReady.cons rfl (fun K hK => ?_) AllReady.nil
                  go_simp
                  refine hK _ _ ?_
                  clear hK K
                  refine wpAny_ready (rs := [14]) (by kernel_rfl) (by simp) ?_
                  refine AllReady.cons rfl (fun K hK => ?_) AllReady.nil
                  go_simp
                  refine ((Live.no (w := World.drew wr) (by exact hLr.drew) (by exact hlo) _)).mono ?_
                  rintro e w2 ⟨rfl, hf2⟩
                  refine hK _ _ ?_
                  clear hK K
                  refine wpAny_take (i := 15) (v := ?_) rfl (by kernel_rfl) (by kernel_rfl) (by kernel_rfl) (fun _ _ _ h => h) (Or.inl ⟨by rfl, by intro w; go_simp; with_reducible rfl⟩) ?_
                  refine wpAny_done (by kernel_rfl) ?_ _
                  go_wp2_with fail
                  go_meet
                  exact Or.inr ⟨rfl, hlo, hLr.of (Fr.trans ((Fr.refl _ _).drew) hf2.of_no) (hLr.rd.fr (Fr.trans ((Fr.refl _ _).drew) hf2) (no_no _)) rfl rfl rfl, hfr.trans (Fr.trans ((Fr.refl _ _).drew) hf2.of_no)⟩
                refine AllReady.cons rfl (fun K hK => ?_) AllReady.nil
                go_simp
                refine hK _ _ ?_
                clear hK K
                refine wpAny_take (i := 9) (v := ?_) rfl (by kernel_rfl) (by kernel_rfl) (by kernel_rfl) (fun _ _ _ h => h) (Or.inl ⟨by rfl, by intro w; go_simp; with_reducible rfl⟩) ?_
                refine wpAny_take (i := 11) (v := ?_) rfl (by kernel_rfl) (by kernel_rfl) (by kernel_rfl) (fun _ _ _ h => h) (Or.inl ⟨by rfl, by intro w; go_simp; with_reducible rfl⟩) ?_
                refine wpAny_ready (rs := [4]) (by kernel_rfl) (by simp) ?_
                refine AllReady.cons rfl (fun K hK => ?_) AllReady.nil
                go_simp
                refine hK _ _ ?_
                clear hK K
                refine wpAny_take (i := 12) (v := ?_) rfl (by kernel_rfl) (by kernel_rfl) (by kernel_rfl) (fun _ _ _ h => h) (Or.inl ⟨by rfl, by intro w; go_simp; with_reducible rfl⟩) ?_
                refine wpAny_ready (rs := [13]) (by kernel_rfl) (by simp) ?_
                refine AllReady.cons rfl (fun K hK => ?_) AllReady.nil
                go_simp
                refine hK _ _ ?_
                clear hK K
                refine wpAny_ready (rs := [14]) (by kernel_rfl) (by simp) ?_
                refine AllReady.cons rfl (fun K hK => ?_) AllReady.nil
                go_simp
                refine ((Live.no (w := World.drew wr) (by exact hLr.drew) (by exact hlo) _)).mono ?_
                rintro e w2 ⟨rfl, hf2⟩
                refine hK _ _ ?_
                clear hK K
                refine wpAny_take (i := 15) (v := ?_) rfl (by kernel_rfl) (by kernel_rfl) (by kernel_rfl) (fun _ _ _ h => h) (Or.inl ⟨by rfl, by intro w; go_simp; with_reducible rfl⟩) ?_
                refine wpAny_done (by kernel_rfl) ?_ _
                go_wp2_with fail
                go_meet
                exact Or.inr ⟨rfl, hlo, hLr.of (Fr.trans ((Fr.refl _ _).drew) hf2.of_no) (hLr.rd.fr (Fr.trans ((Fr.refl _ _).drew) hf2) (no_no _)) rfl rfl rfl, hfr.trans (Fr.trans ((Fr.refl _ _).drew) hf2.of_no)⟩
            case rest =>
              rcases hcut with ⟨rfl, hlo, ov2, hLx, hfx⟩ | ⟨rfl, hlo, hrx, hfx⟩
              · go_wp2
                refine ⟨⟨k + 1, _, ov2, by omega, by go_num, ?_, ?_, by simp; omega, hLx, hfx⟩, by simp [intOf]; omega⟩
                · rw [← HGO.out, show n - k = (n - (k + 1)) + 1 by omega]
                  conv => rhs; unfold Gz.copyGo
                  rw [if_neg (by omega), ← HIX.out]
                · rw [← HGO2.out, show n - k = (n - (k + 1)) + 1 by omega]
                  conv => rhs; unfold Gz.copyO
                  rw [if_neg (by omega), ← HIX.out]
              · go_wp2
                go_ret
                refine ⟨hfx, ?_⟩
                have e1 : Gz.copyGo s.lim far n out = none := by
                  rw [← HGO.out, show n - k = (n - (k + 1)) + 1 by omega]
                  unfold Gz.copyGo
                  rw [if_pos (by omega)]
                have e2 : Gz.copyO s.lim far n out = o := by
                  rw [← HGO2.out, show n - k = (n - (k + 1)) + 1 by omega]
                  unfold Gz.copyO
                  rw [if_pos (by omega)]
                rw [HD.out, e1, HO.out, e2]
                exact ⟨⟨_, _, hrx⟩, Or.inr ⟨by omega, by omega, _, 0, rfl, .sent 8 (by omega) (by omega)⟩⟩
          · go_wp2
            go_ret
            refine ⟨hfr, ?_⟩
            have e1 : Gz.copyGo s.lim far n out = some o := by
              rw [← HGO.out, show n - k = 0 by omega]
              rfl
            rw [HD.out, e1]
            exact ⟨rfl, ov', hLr⟩

theorem repeat_any (sp : Nat → Addr) (B rb db tb s1 s2 sy : Nat) (K : List Nat) (s : RS) (d out : List UInt8) (t : Gz.Table) (w : World) (hL : Live sp B rb db K d out w s) (hT : TableAt w K tb s1 s2 t) (hst : s.tb = .pointer (some ⟨tb, 0, none⟩))
    (hsy1 : 257 ≤ sy) (hsy2 : sy ≤ 285) (hpos : s.pos ≤ 8 * d.length) :
    Calls Tryz.prog 138 #[.pointer (some ⟨rb, 0, none⟩), .int .i64 sy] w
      (Ran3 sp B rb db K d w s (fun o q w' => ∃ ov', Live sp B rb db K d o w' { s with pos := q, ov := ov' }) (Gz.rep d t s.lim sy out s.pos) (Gz.repO d t s.lim sy out s.pos)) := by
  by_cases hl : s.pos + Gz.lenBits sy ≤ 8 * d.length
  · exact repeat_long sp B rb db tb s1 s2 sy K s d out t w hL hT hst hsy1 hsy2 hl
  · exact repeat_short sp B rb db sy K s d out t w hL hsy1 hsy2 hpos hl
end Go.Proofs.YtjjjlilflbddoaaGreatDoor
