import Derived.Test.YtjjjlilflbddoaaGreatDoorGDist
import Derived.Test.YtjjjlilflbddoaaGreatDoorQM
import Derived.Deep.DeepCutAuto
namespace Go.Proofs.YtjjjlilflbddoaaGreatDoor
open Go.RowKit

theorem len_step (a b : Nat) (ha : a ≤ 258) (hb : b ≤ 32) : IntKind.i64.wrap ((a : Int) + (b : Int)) = ((a + b : Nat) : Int) := by
  rw [wraps_i64 _ (by omega) (by omega)]; omega

theorem Live.drew {sp : Nat → Addr} {B rb db : Nat} {K : List Nat} {d out : List UInt8} {w : World} {s : RS} (h : Live sp B rb db K d out w s) : Live sp B rb db K d out w.drew s :=
  ⟨h.env.fr (Fr.refl No w).drew (fun _ _ => no_no _), h.rd, h.dat, h.row, h.apart, h.b13, h.bsz, h.brb, h.dbK, h.rbK, h.klt, h.lim, h.len, h.dlen⟩

set_option maxHeartbeats 1600000 in
theorem repeat_short (sp : Nat → Addr) (B rb db sy : Nat) (K : List Nat) (s : RS) (d out : List UInt8) (t : Gz.Table) (w : World) (hL : Live sp B rb db K d out w s)
    (hsy1 : 257 ≤ sy) (hsy2 : sy ≤ 285) (hpos : s.pos ≤ 8 * d.length) (hl : ¬ s.pos + Gz.lenBits sy ≤ 8 * d.length) :
    Calls Tryz.prog 138 #[.pointer (some ⟨rb, 0, none⟩), .int .i64 sy] w
      (Ran3 sp B rb db K d w s (fun o q w' => ∃ ov', Live sp B rb db K d o w' { s with pos := q, ov := ov' }) (Gz.rep d t s.lim sy out s.pos) (Gz.repO d t s.lim sy out s.pos)) := by
  have hlb := lenBits_le sy hsy2
  have hdb := hL.ne hL.dbK
  obtain ⟨k0, hk0⟩ : ∃ k0, k0 = sy - 257 := ⟨_, rfl⟩
  have hlen0 := hL.env.len k0 (by omega)
  have hw0 : IntKind.i64.wrap ((sy : Int) - 257) = (k0 : Int) := by rw [wraps_i64 _ (by omega) (by omega)]; omega
  have hk29 : (k0 : Int) < 29 := by omega
  clear hk0
  have hb0 : 0 < Gz.lenBits sy := by omega
  have HD : Hid (Gz.rep d t s.lim sy out s.pos = .error 2) := by
    unfold Hid Gz.rep; simp only [Gz.num, if_neg hl, Gz.Out.bind]
  have HO : Hid (Gz.repO d t s.lim sy out s.pos = out) := by
    unfold Hid Gz.repO; simp only [Gz.num, if_neg hl]
  go_enter Tryz.func138, Tryz.ntmps138
  go_wp2
  refine wp_region_any (by kernel_rfl) ?_
  change wpAny _ _ _ _ _ _ _ (World.drew _)
  refine wpAny_take (i := 0) (v := ?_) rfl (by kernel_rfl) (by kernel_rfl) (by kernel_rfl) (fun _ _ _ h => h) (Or.inl ⟨by rfl, by intro w; go_simp; with_reducible rfl⟩) ?_
  refine wpAny_take (i := 1) (v := ?_) rfl (by kernel_rfl) (by kernel_rfl) (by kernel_rfl) (fun _ _ _ h => h) (Or.inl ⟨by rfl, by intro w; go_simp; with_reducible rfl⟩) ?_
  refine wpAny_take (i := 2) (v := ?_) rfl (by kernel_rfl) (by kernel_rfl) (by kernel_rfl) (fun _ _ _ h => h) (Or.inl ⟨by rfl, by intro w; go_simp; with_reducible rfl⟩) ?_
  refine wpAny_take (i := 4) (v := ?_) rfl (by kernel_rfl) (by kernel_rfl) (by kernel_rfl) (fun _ _ _ h => h) (Or.inl ⟨by rfl, by intro w; go_simp; with_reducible rfl⟩) ?_
  refine wpAny_take (i := 5) (v := ?_) rfl (by kernel_rfl) (by kernel_rfl) (by kernel_rfl) (fun _ _ _ h => h) (Or.inl ⟨by rfl, by intro w; go_simp; with_reducible rfl⟩) ?_
  refine wpAny_ready (rs := [3, 6]) (by kernel_rfl) (by simp) ?_
  refine AllReady.cons rfl (fun K hK => ?_) ?_
  · go_simp
    refine hK _ _ ?_
    clear hK K
    refine wpAny_ready (rs := [6]) (by kernel_rfl) (by simp) ?_
    refine AllReady.cons rfl (fun K hK => ?_) AllReady.nil
    go_simp
    refine (lengthBits_any sy _ (by omega)).mono ?_
    rintro e w2 ⟨rfl, rfl⟩
    refine hK _ _ ?_
    clear hK K
    refine wpAny_ready (rs := [7]) (by kernel_rfl) (by simp) ?_
    refine AllReady.cons rfl (fun K hK => ?_) AllReady.nil
    go_simp
    refine (number_short rb db s d (Gz.lenBits sy) _ hL.dlen hdb (by exact hL.rd) (by exact hL.dat) (by omega) hb0 hl).mono ?_
    rintro e w1 ⟨⟨p, m, rfl, hp⟩, ⟨q2, hr2⟩, hf2⟩
    refine bodyPost_panic rfl ⟨hL.one (Fr.trans ((Fr.refl _ _).drew) hf2), ?_⟩
    rw [HD.out, HO.out]
    exact ⟨⟨q2, s.ov, hL.of (Fr.trans ((Fr.refl _ _).drew) hf2) hr2 rfl rfl rfl⟩, Or.inl ⟨rfl, p, m, rfl, hp⟩⟩
  refine AllReady.cons rfl (fun K hK => ?_) AllReady.nil
  go_simp
  refine (lengthBits_any sy _ (by omega)).mono ?_
  rintro e w2 ⟨rfl, rfl⟩
  refine hK _ _ ?_
  clear hK K
  refine wpAny_ready (rs := [3, 7]) (by kernel_rfl) (by simp) ?_
  refine AllReady.cons rfl (fun K hK => ?_) ?_
  · go_simp
    refine hK _ _ ?_
    clear hK K
    refine wpAny_ready (rs := [7]) (by kernel_rfl) (by simp) ?_
    refine AllReady.cons rfl (fun K hK => ?_) AllReady.nil
    go_simp
    refine (number_short rb db s d (Gz.lenBits sy) _ hL.dlen hdb (by exact hL.rd) (by exact hL.dat) (by omega) hb0 hl).mono ?_
    rintro e w1 ⟨⟨p, m, rfl, hp⟩, ⟨q2, hr2⟩, hf2⟩
    refine bodyPost_panic rfl ⟨hL.one (Fr.trans ((Fr.refl _ _).drew) hf2), ?_⟩
    rw [HD.out, HO.out]
    exact ⟨⟨q2, s.ov, hL.of (Fr.trans ((Fr.refl _ _).drew) hf2) hr2 rfl rfl rfl⟩, Or.inl ⟨rfl, p, m, rfl, hp⟩⟩
  refine AllReady.cons rfl (fun K hK => ?_) AllReady.nil
  go_simp
  refine (number_short rb db s d (Gz.lenBits sy) _ hL.dlen hdb (by exact hL.rd) (by exact hL.dat) (by omega) hb0 hl).mono ?_
  rintro e w1 ⟨⟨p, m, rfl, hp⟩, ⟨q2, hr2⟩, hf2⟩
  refine bodyPost_panic rfl ⟨hL.one (Fr.trans ((Fr.refl _ _).drew) hf2), ?_⟩
  rw [HD.out, HO.out]
  exact ⟨⟨q2, s.ov, hL.of (Fr.trans ((Fr.refl _ _).drew) hf2) hr2 rfl rfl rfl⟩, Or.inl ⟨rfl, p, m, rfl, hp⟩⟩

set_option maxHeartbeats 4000000 in
theorem repeat_long (sp : Nat → Addr) (B rb db tb s1 s2 sy : Nat) (K : List Nat) (s : RS) (d out : List UInt8) (t : Gz.Table) (w : World) (hL : Live sp B rb db K d out w s) (hT : TableAt w K tb s1 s2 t) (hst : s.tb = .pointer (some ⟨tb, 0, none⟩))
    (hsy1 : 257 ≤ sy) (hsy2 : sy ≤ 285) (hl : s.pos + Gz.lenBits sy ≤ 8 * d.length) :
    Calls Tryz.prog 138 #[.pointer (some ⟨rb, 0, none⟩), .int .i64 sy] w
      (Ran3 sp B rb db K d w s (fun o q w' => ∃ ov', Live sp B rb db K d o w' { s with pos := q, ov := ov' }) (Gz.rep d t s.lim sy out s.pos) (Gz.repO d t s.lim sy out s.pos)) := by
  have hne := neq_err
  have hnn := neq_nil
  have hlb := lenBits_le sy hsy2
  have hdb := hL.ne hL.dbK
  obtain ⟨k0, hk0⟩ : ∃ k0, k0 = sy - 257 := ⟨_, rfl⟩
  have hlen0 := hL.env.len k0 (by omega)
  have hw0 : IntKind.i64.wrap ((sy : Int) - 257) = (k0 : Int) := by rw [wraps_i64 _ (by omega) (by omega)]; omega
  have hk29 : (k0 : Int) < 29 := by omega
  have HK0 := hide hk0
  clear hk0
  have HST := hide hst
  clear hst
  have hfb := lenFrom_le k0
  have hvb := val_lt d s.pos (Gz.lenBits sy)
  have hpb : 2 ^ Gz.lenBits sy ≤ 2 ^ 5 := Nat.pow_le_pow_right (by decide) hlb
  go_enter Tryz.func138, Tryz.ntmps138
  go_upto_region 1 with fail
  go_cut [5] (fun v wx => v = .int .i64 ((Gz.lenFrom[k0]?.getD 0 + Gz.val d s.pos (Gz.lenBits sy) : Nat) : Int) ∧ Rd wx rb { s with pos := s.pos + Gz.lenBits sy } ∧ Fr (One rb) w wx)
  case first =>
    refine wp_region_any (by kernel_rfl) ?_
    change wpAny _ _ _ _ _ _ _ (World.drew _)
    refine wpAny_take (i := 0) (v := ?_) rfl (by kernel_rfl) (by kernel_rfl) (by kernel_rfl) (fun _ _ _ h => h) (Or.inl ⟨by rfl, by intro w; go_simp; with_reducible rfl⟩) ?_
    refine wpAny_take (i := 1) (v := ?_) rfl (by kernel_rfl) (by kernel_rfl) (by kernel_rfl) (fun _ _ _ h => h) (Or.inl ⟨by rfl, by intro w; go_simp; with_reducible rfl⟩) ?_
    refine wpAny_take (i := 2) (v := ?_) rfl (by kernel_rfl) (by kernel_rfl) (by kernel_rfl) (fun _ _ _ h => h) (Or.inl ⟨by rfl, by intro w; go_simp; with_reducible rfl⟩) ?_
    refine wpAny_take (i := 4) (v := ?_) rfl (by kernel_rfl) (by kernel_rfl) (by kernel_rfl) (fun _ _ _ h => h) (Or.inl ⟨by rfl, by intro w; go_simp; with_reducible rfl⟩) ?_
    refine wpAny_take (i := 5) (v := ?_) rfl (by kernel_rfl) (by kernel_rfl) (by kernel_rfl) (fun _ _ _ h => h) (Or.inl ⟨by rfl, by intro w; go_simp; with_reducible rfl⟩) ?_
    refine wpAny_ready (rs := [3, 6]) (by kernel_rfl) (by simp) ?_
    refine AllReady.cons rfl (fun K hK => ?_) ?_
    · go_simp
      refine hK _ _ ?_
      clear hK K
      refine wpAny_ready (rs := [6]) (by kernel_rfl) (by simp) ?_
      refine AllReady.cons rfl (fun K hK => ?_) AllReady.nil
      go_simp
      refine (lengthBits_any sy _ (by omega)).mono ?_
      rintro e w2 ⟨rfl, rfl⟩
      refine hK _ _ ?_
      clear hK K
      refine wpAny_ready (rs := [7]) (by kernel_rfl) (by simp) ?_
      refine AllReady.cons rfl (fun K hK => ?_) AllReady.nil
      go_simp
      refine (number_ok rb db s d (Gz.lenBits sy) _ hL.dlen hdb (by exact hL.rd) (by exact hL.dat) (by omega) hl).mono ?_
      rintro e w1 ⟨rfl, hr1, hf1⟩
      have hlen2 := (hL.env.fr (Fr.trans ((Fr.refl _ _).drew) hf1) (fun k hk => one_ne (by have := hL.r13; omega))).len k0 (by omega)
      refine hK _ _ ?_
      clear hK K
      refine wpAny_take (i := 8) (v := ?_) rfl (by kernel_rfl) (by kernel_rfl) (by kernel_rfl) (fun _ _ _ h => h) (Or.inl ⟨by rfl, by intro w; go_simp; with_reducible rfl⟩) ?_
      refine wpAny_take (i := 9) (v := ?_) rfl (by kernel_rfl) (by kernel_rfl) (by kernel_rfl) (fun _ _ _ h => h) (Or.inl ⟨by rfl, by intro w; go_simp; with_reducible rfl⟩) ?_
      refine wpAny_done (by kernel_rfl) ?_ _
      go_wp2_with fail
      go_meet
      exact ⟨congrArg (Value.int .i64) (len_step _ _ hfb (by omega)), hr1, Fr.trans ((Fr.refl _ _).drew) hf1⟩
    refine AllReady.cons rfl (fun K hK => ?_) AllReady.nil
    go_simp
    refine (lengthBits_any sy _ (by omega)).mono ?_
    rintro e w2 ⟨rfl, rfl⟩
    refine hK _ _ ?_
    clear hK K
    refine wpAny_ready (rs := [3, 7]) (by kernel_rfl) (by simp) ?_
    refine AllReady.cons rfl (fun K hK => ?_) ?_
    · go_simp
      refine hK _ _ ?_
      clear hK K
      refine wpAny_ready (rs := [7]) (by kernel_rfl) (by simp) ?_
      refine AllReady.cons rfl (fun K hK => ?_) AllReady.nil
      go_simp
      refine (number_ok rb db s d (Gz.lenBits sy) _ hL.dlen hdb (by exact hL.rd) (by exact hL.dat) (by omega) hl).mono ?_
      rintro e w1 ⟨rfl, hr1, hf1⟩
      have hlen2 := (hL.env.fr (Fr.trans ((Fr.refl _ _).drew) hf1) (fun k hk => one_ne (by have := hL.r13; omega))).len k0 (by omega)
      refine hK _ _ ?_
      clear hK K
      refine wpAny_take (i := 8) (v := ?_) rfl (by kernel_rfl) (by kernel_rfl) (by kernel_rfl) (fun _ _ _ h => h) (Or.inl ⟨by rfl, by intro w; go_simp; with_reducible rfl⟩) ?_
      refine wpAny_take (i := 9) (v := ?_) rfl (by kernel_rfl) (by kernel_rfl) (by kernel_rfl) (fun _ _ _ h => h) (Or.inl ⟨by rfl, by intro w; go_simp; with_reducible rfl⟩) ?_
      refine wpAny_done (by kernel_rfl) ?_ _
      go_wp2_with fail
      go_meet
      exact ⟨congrArg (Value.int .i64) (len_step _ _ hfb (by omega)), hr1, Fr.trans ((Fr.refl _ _).drew) hf1⟩
    refine AllReady.cons rfl (fun K hK => ?_) AllReady.nil
    go_simp
    refine (number_ok rb db s d (Gz.lenBits sy) _ hL.dlen hdb (by exact hL.rd) (by exact hL.dat) (by omega) hl).mono ?_
    rintro e w1 ⟨rfl, hr1, hf1⟩
    have hlen2 := (hL.env.fr (Fr.trans ((Fr.refl _ _).drew) hf1) (fun k hk => one_ne (by have := hL.r13; omega))).len k0 (by omega)
    refine hK _ _ ?_
    clear hK K
    refine wpAny_ready (rs := [3]) (by kernel_rfl) (by simp) ?_
    refine AllReady.cons rfl (fun K hK => ?_) AllReady.nil
    go_simp
    refine hK _ _ ?_
    clear hK K
    refine wpAny_take (i := 8) (v := ?_) rfl (by kernel_rfl) (by kernel_rfl) (by kernel_rfl) (fun _ _ _ h => h) (Or.inl ⟨by rfl, by intro w; go_simp; with_reducible rfl⟩) ?_
    refine wpAny_take (i := 9) (v := ?_) rfl (by kernel_rfl) (by kernel_rfl) (by kernel_rfl) (fun _ _ _ h => h) (Or.inl ⟨by rfl, by intro w; go_simp; with_reducible rfl⟩) ?_
    refine wpAny_done (by kernel_rfl) ?_ _
    go_wp2_with fail
    go_meet
    exact ⟨congrArg (Value.int .i64) (len_step _ _ hfb (by omega)), hr1, Fr.trans ((Fr.refl _ _).drew) hf1⟩
  case rest =>
    obtain ⟨rfl, hr1, hf1⟩ := hcut
    have hL1 := hL.of hf1 hr1 rfl rfl rfl
    have hT1 := hT.fr (hL.one hf1)
    generalize hLn : Gz.lenFrom[k0]?.getD 0 + Gz.val d s.pos (Gz.lenBits sy) = n at *
    have hn : n ≤ 300 := by omega
    have HLN := hide hLn
    clear hLn hlen0 hw0
    go_wp2_with fail
    refine (distance_any sp rb db tb s2 { s with pos := s.pos + Gz.lenBits sy } d t.dists _ hL1.dlen hdb (hL1.ne hT1.k0) (hL1.ne hT1.k2) hL1.r13 hL1.env hr1 hL1.dat HST.out hT1.dists hT1.g2).mono ?_
    rintro e w2 ⟨hf2, hres⟩
    have HREP : Hid (Gz.rep d t s.lim sy out s.pos = (Gz.dist d t.dists (s.pos + Gz.lenBits sy)).bind fun far p2 => if out.length < far then .error 7 else match Gz.copyGo s.lim far n out with | none => .error 8 | some o => .ok (o, p2)) := by
      unfold Hid Gz.rep
      simp only [Gz.num, if_pos hl, Gz.Out.bind, ← HK0.out]
      rw [show Gz.lenFrom.getD k0 0 = Gz.lenFrom[k0]?.getD 0 from rfl, HLN.out]
      rfl
    cases hds : Gz.dist d t.dists (s.pos + Gz.lenBits sy) with
    | error k =>
      have HD : Hid (Gz.rep d t s.lim sy out s.pos = .error k) := by unfold Hid; rw [HREP.out, hds]; rfl
      have HO : Hid (Gz.repO d t s.lim sy out s.pos = out) := by unfold Hid Gz.repO; simp only [Gz.num, if_pos hl]; rw [hds]
      rw [hds] at hres
      clear hds
      obtain ⟨⟨q, hr2⟩, ⟨rfl, hsh⟩ | ⟨h3, h8', v, m, rfl, hv⟩⟩ := hres
      · obtain ⟨p, m, rfl, hp⟩ := hsh
        go_wp2
        refine bodyPost_panic rfl ⟨hL.one (hf1.trans hf2), ?_⟩
        rw [HD.out, HO.out]
        exact ⟨⟨_, _, hL1.of hf2 hr2 rfl rfl rfl⟩, Or.inl ⟨rfl, p, m, rfl, hp⟩⟩
      · obtain ⟨ty, p, rfl⟩ := hv.iface
        go_wp2
        go_ret
        refine ⟨hL.one (hf1.trans hf2), ?_⟩
        rw [HD.out, HO.out]
        exact ⟨⟨_, _, hL1.of hf2 hr2 rfl rfl rfl⟩, Or.inr ⟨h3, h8', _, m, rfl, hv⟩⟩
    | ok okk =>
      obtain ⟨far, q⟩ := okk
      rw [hds] at hres
      obtain ⟨rfl, hr2⟩ := hres
      have hL2 := hL1.of hf2 hr2 rfl rfl rfl
      obtain ⟨ao, cap, hov⟩ := hL2.form
      have h4 := hr2.c4
      rw [hov] at h4
      have HOV := hide hov
      clear hov
      have hsent : w2.cell? ⟨4, 0, none⟩ = some (.iface 248 (.pointer (some (sp 7)))) := hL2.env.err 7 (by omega) (by omega)
      have hol := hL.len
      have hlim := hL.lim
      by_cases hfar : out.length < far
      · have HD : Hid (Gz.rep d t s.lim sy out s.pos = .error 7) := by unfold Hid; rw [HREP.out, hds]; simp only [Gz.Out.bind, if_pos hfar]
        have HO : Hid (Gz.repO d t s.lim sy out s.pos = out) := by unfold Hid Gz.repO; simp only [Gz.num, if_pos hl]; rw [hds]; simp only [if_pos hfar]
        clear hds
        go_wp2
        go_ret
        refine ⟨(hL.one (hf1.trans hf2)).alloc _, ?_⟩
        rw [HD.out, HO.out]
        exact ⟨⟨_, _, hL2.of ((Fr.refl _ _).alloc _) (hr2.alloc _) rfl rfl rfl⟩, Or.inr ⟨by omega, by omega, _, 1, rfl, .fault _ _ _ _ _ (alloc_at w2 _) (.sent 7 (by omega) (by omega))⟩⟩
      · have HD : Hid (Gz.rep d t s.lim sy out s.pos = match Gz.copyGo s.lim far n out with | none => .error 8 | some o => .ok (o, q)) := by unfold Hid; rw [HREP.out, hds]; simp only [Gz.Out.bind, if_neg hfar]
        have HO : Hid (Gz.repO d t s.lim sy out s.pos = Gz.copyO s.lim far n out) := by
          unfold Hid Gz.repO
          simp only [Gz.num, if_pos hl, ← HK0.out]
          rw [hds]
          simp only [if_neg hfar]
          rw [show Gz.lenFrom.getD k0 0 = Gz.lenFrom[k0]?.getD 0 from rfl, HLN.out]
        have hdpos : 0 < far := dist_pos hds
        clear hds
        go_wp2_with fail
        go_loopw [38] (fun i wr => ∃ (k : Nat) (o : List UInt8) (ov' : Value), k ≤ n ∧ i = .int .i64 k ∧ Gz.copyGo s.lim far (n - k) o = Gz.copyGo s.lim far n out ∧ Gz.copyO s.lim far (n - k) o = Gz.copyO s.lim far n out ∧ far ≤ o.length ∧ Live sp B rb db K d o wr { s with pos := q, ov := ov' } ∧ Fr (Own B K) w wr) (fun i _ => n - (intOf i).toNat)
        case atStart => exact ⟨0, out, s.ov, Nat.zero_le _, rfl, rfl, rfl, by omega, hL2, hL.one (hf1.trans hf2)⟩
        case round =>
          obtain ⟨k, o, ov', hk, rfl, hgo, hgo2, hfo, hLr, hfr⟩ := hrel
          have HGO := hide hgo
          have HGO2 := hide hgo2
          clear hgo hgo2
          by_cases hkn : k < n
          · have hol2 := hLr.len
            have hol3 : o.length ≤ 6000 := by have := hLr.lim; have e : o.length ≤ s.lim := hol2; omega
            obtain ⟨g, cap2, hov2, hbyte⟩ := hLr.byte (i := o.length - far) (by omega)
            have hov2' : ov' = .slice (some ⟨g, 0, none⟩) o.length cap2 := hov2
            subst hov2'
            have k4 := hLr.rd.c4
            have hwl : IntKind.i64.wrap ((o.length : Int) - (far : Int)) = ((o.length - far : Nat) : Int) := by rw [wraps_i64 _ (by omega) (by omega)]; omega
            obtain ⟨ix, hix⟩ : ∃ ix, ix = o.length - far := ⟨_, rfl⟩
            rw [← hix] at hwl hbyte
            have hixl : (ix : Int) < o.length := by omega
            have HIX := hide hix
            clear hix
            go_upto_region 9 with fail
            go_cut [8] (fun v wx => (v = .nilIface ∧ o.length < s.lim ∧ ∃ ov2, Live sp B rb db K d (o ++ [o.getD ix 0]) wx { s with pos := q, ov := ov2 } ∧ Fr (Own B K) w wx) ∨ (v = .iface 248 (.pointer (some (sp 8))) ∧ ¬ o.length < s.lim ∧ Live sp B rb db K d o wx { s with pos := q, ov := .slice (some ⟨g, 0, none⟩) o.length cap2 } ∧ Fr (Own B K) w wx))
            case first =>
              by_cases hlo : o.length < s.lim
              · refine wp_region_any (by kernel_rfl) ?_
                change wpAny _ _ _ _ _ _ _ (World.drew _)
                refine wpAny_take (i := 0) (v := ?_) rfl (by kernel_rfl) (by kernel_rfl) (by kernel_rfl) (fun _ _ _ h => h) (Or.inl ⟨by rfl, by intro w; go_simp; with_reducible rfl⟩) ?_
                refine wpAny_take (i := 1) (v := ?_) rfl (by kernel_rfl) (by kernel_rfl) (by kernel_rfl) (fun _ _ _ h => h) (Or.inl ⟨by rfl, by intro w; go_simp; with_reducible rfl⟩) ?_
                refine wpAny_take (i := 2) (v := ?_) rfl (by kernel_rfl) (by kernel_rfl) (by kernel_rfl) (fun _ _ _ h => h) (Or.inl ⟨by rfl, by intro w; go_simp; with_reducible rfl⟩) ?_
                refine wpAny_take (i := 3) (v := ?_) rfl (by kernel_rfl) (by kernel_rfl) (by kernel_rfl) (fun _ _ _ h => h) (Or.inl ⟨by rfl, by intro w; go_simp; with_reducible rfl⟩) ?_
                refine wpAny_take (i := 5) (v := ?_) rfl (by kernel_rfl) (by kernel_rfl) (by kernel_rfl) (fun _ _ _ h => h) (Or.inl ⟨by rfl, by intro w; go_simp; with_reducible rfl⟩) ?_
                refine wpAny_take (i := 6) (v := ?_) rfl (by kernel_rfl) (by kernel_rfl) (by kernel_rfl) (fun _ _ _ h => h) (Or.inl ⟨by rfl, by intro w; go_simp; with_reducible rfl⟩) ?_
                refine wpAny_take (i := 7) (v := ?_) rfl (by kernel_rfl) (by kernel_rfl) (by kernel_rfl) (fun _ _ _ h => h) (Or.inl ⟨by rfl, by intro w; go_simp; with_reducible rfl⟩) ?_
                refine wpAny_take (i := 10) (v := ?_) rfl (by kernel_rfl) (by kernel_rfl) (by kernel_rfl) (fun _ _ _ h => h) (Or.inl ⟨by rfl, by intro w; go_simp; with_reducible rfl⟩) ?_
                refine wpAny_ready (rs := [4, 8]) (by kernel_rfl) (by simp) ?_
                refine AllReady.cons rfl (fun K hK => ?_) ?_
                · go_simp
                  refine hK _ _ ?_
                  clear hK K
                  refine wpAny_ready (rs := [8]) (by kernel_rfl) (by simp) ?_
                  refine AllReady.cons rfl (fun K hK => ?_) AllReady.nil
                  go_simp
                  refine hK _ _ ?_
                  clear hK K
                  refine wpAny_take (i := 9) (v := ?_) rfl (by kernel_rfl) (by kernel_rfl) (by kernel_rfl) (fun _ _ _ h => h) (Or.inl ⟨by rfl, by intro w; go_simp; with_reducible rfl⟩) ?_
                  refine wpAny_take (i := 11) (v := ?_) rfl (by kernel_rfl) (by kernel_rfl) (by kernel_rfl) (fun _ _ _ h => h) (Or.inl ⟨by rfl, by intro w; go_simp; with_reducible rfl⟩) ?_
                  refine wpAny_take (i := 12) (v := ?_) rfl (by kernel_rfl) (by kernel_rfl) (by kernel_rfl) (fun _ _ _ h => h) (Or.inl ⟨by rfl, by intro w; go_simp; with_reducible rfl⟩) ?_
                  refine wpAny_ready (rs := [13]) (by kernel_rfl) (by simp) ?_
                  refine AllReady.cons rfl (fun K hK => ?_) AllReady.nil
                  go_simp
                  refine hK _ _ ?_
                  clear hK K
                  refine wpAny_ready (rs := [14]) (by kernel_rfl) (by simp) ?_
                  refine AllReady.cons rfl (fun K hK => ?_) AllReady.nil
                  go_simp
                  refine ((Live.put (w := World.drew wr) (by exact hLr.drew) (by exact hlo) _)).mono ?_
                  rintro e w2 ⟨rfl, ⟨ov2, hL2⟩, hf2⟩
                  refine hK _ _ ?_
                  clear hK K
                  refine wpAny_take (i := 15) (v := ?_) rfl (by kernel_rfl) (by kernel_rfl) (by kernel_rfl) (fun _ _ _ h => h) (Or.inl ⟨by rfl, by intro w; go_simp; with_reducible rfl⟩) ?_
                  refine wpAny_done (by kernel_rfl) ?_ _
                  go_wp2_with fail
                  go_meet
                  exact Or.inl ⟨rfl, hlo, ov2, hL2, hfr.trans (Fr.trans ((Fr.refl _ _).drew) hf2)⟩
                refine AllReady.cons rfl (fun K hK => ?_) AllReady.nil
                go_simp
                refine hK _ _ ?_
                clear hK K
                refine wpAny_take (i := 9) (v := ?_) rfl (by kernel_rfl) (by kernel_rfl) (by kernel_rfl) (fun _ _ _ h => h) (Or.inl ⟨by rfl, by intro w; go_simp; with_reducible rfl⟩) ?_
                refine wpAny_take (i := 11) (v := ?_) rfl (by kernel_rfl) (by kernel_rfl) (by kernel_rfl) (fun _ _ _ h => h) (Or.inl ⟨by rfl, by intro w; go_simp; with_reducible rfl⟩) ?_
                refine wpAny_ready (rs := [4]) (by kernel_rfl) (by simp) ?_
                refine AllReady.cons rfl (fun K hK => ?_) AllReady.nil
                go_simp
                refine hK _ _ ?_
                clear hK K
                refine wpAny_take (i := 12) (v := ?_) rfl (by kernel_rfl) (by kernel_rfl) (by kernel_rfl) (fun _ _ _ h => h) (Or.inl ⟨by rfl, by intro w; go_simp; with_reducible rfl⟩) ?_
                refine wpAny_ready (rs := [13]) (by kernel_rfl) (by simp) ?_
                refine AllReady.cons rfl (fun K hK => ?_) AllReady.nil
                go_simp
                refine hK _ _ ?_
                clear hK K
                refine wpAny_ready (rs := [14]) (by kernel_rfl) (by simp) ?_
                refine AllReady.cons rfl (fun K hK => ?_) AllReady.nil
                go_simp
                refine ((Live.put (w := World.drew wr) (by exact hLr.drew) (by exact hlo) _)).mono ?_
                rintro e w2 ⟨rfl, ⟨ov2, hL2⟩, hf2⟩
                refine hK _ _ ?_
                clear hK K
                refine wpAny_take (i := 15) (v := ?_) rfl (by kernel_rfl) (by kernel_rfl) (by kernel_rfl) (fun _ _ _ h => h) (Or.inl ⟨by rfl, by intro w; go_simp; with_reducible rfl⟩) ?_
                refine wpAny_done (by kernel_rfl) ?_ _
                go_wp2_with fail
                go_meet
                exact Or.inl ⟨rfl, hlo, ov2, hL2, hfr.trans (Fr.trans ((Fr.refl _ _).drew) hf2)⟩
              · refine wp_region_any (by kernel_rfl) ?_
                change wpAny _ _ _ _ _ _ _ (World.drew _)
                refine wpAny_take (i := 0) (v := ?_) rfl (by kernel_rfl) (by kernel_rfl) (by kernel_rfl) (fun _ _ _ h => h) (Or.inl ⟨by rfl, by intro w; go_simp; with_reducible rfl⟩) ?_
                refine wpAny_take (i := 1) (v := ?_) rfl (by kernel_rfl) (by kernel_rfl) (by kernel_rfl) (fun _ _ _ h => h) (Or.inl ⟨by rfl, by intro w; go_simp; with_reducible rfl⟩) ?_
                refine wpAny_take (i := 2) (v := ?_) rfl (by kernel_rfl) (by kernel_rfl) (by kernel_rfl) (fun _ _ _ h => h) (Or.inl ⟨by rfl, by intro w; go_simp; with_reducible rfl⟩) ?_
                refine wpAny_take (i := 3) (v := ?_) rfl (by kernel_rfl) (by kernel_rfl) (by kernel_rfl) (fun _ _ _ h => h) (Or.inl ⟨by rfl, by intro w; go_simp; with_reducible rfl⟩) ?_
                refine wpAny_take (i := 5) (v := ?_) rfl (by kernel_rfl) (by kernel_rfl) (by kernel_rfl) (fun _ _ _ h => h) (Or.inl ⟨by rfl, by intro w; go_simp; with_reducible rfl⟩) ?_
                refine wpAny_take (i := 6) (v := ?_) rfl (by kernel_rfl) (by kernel_rfl) (by kernel_rfl) (fun _ _ _ h => h) (Or.inl ⟨by rfl, by intro w; go_simp; with_reducible rfl⟩) ?_
                refine wpAny_take (i := 7) (v := ?_) rfl (by kernel_rfl) (by kernel_rfl) (by kernel_rfl) (fun _ _ _ h => h) (Or.inl ⟨by rfl, by intro w; go_simp; with_reducible rfl⟩) ?_
                refine wpAny_take (i := 10) (v := ?_) rfl (by kernel_rfl) (by kernel_rfl) (by kernel_rfl) (fun _ _ _ h => h) (Or.inl ⟨by rfl, by intro w; go_simp; with_reducible rfl⟩) ?_
                refine wpAny_ready (rs := [4, 8]) (by kernel_rfl) (by simp) ?_
                refine AllReady.cons rfl (fun K hK => ?_) ?_
                · go_simp
                  refine hK _ _ ?_
                  clear hK K
                  refine wpAny_ready (rs := [8]) (by kernel_rfl) (by simp) ?_
                  refine AllReady.cons rfl (fun K hK => ?_) AllReady.nil
                  go_simp
                  refine hK _ _ ?_
                  clear hK K
                  refine wpAny_take (i := 9) (v := ?_) rfl (by kernel_rfl) (by kernel_rfl) (by kernel_rfl) (fun _ _ _ h => h) (Or.inl ⟨by rfl, by intro w; go_simp; with_reducible rfl⟩) ?_
                  refine wpAny_take (i := 11) (v := ?_) rfl (by kernel_rfl) (by kernel_rfl) (by kernel_rfl) (fun _ _ _ h => h) (Or.inl ⟨by rfl, by intro w; go_simp; with_reducible rfl⟩) ?_
                  refine wpAny_take (i := 12) (v := ?_) rfl (by kernel_rfl) (by kernel_rfl) (by kernel_rfl) (fun _ _ _ h => h) (Or.inl ⟨by rfl, by intro w; go_simp; with_reducible rfl⟩) ?_
                  refine wpAny_ready (rs := [13]) (by kernel_rfl) (by simp) ?_
                  refine AllReady.cons rfl (fun K hK => ?_) AllReady.nil
                  go_simp
                  refine hK _ _ ?_
                  clear hK K
                  refine wpAny_ready (rs := [14]) (by kernel_rfl) (by simp) ?_
                  refine AllReady.cons rfl (fun K hK => ?_) AllReady.nil
                  go_simp
                  refine ((Live.no (w := World.drew wr) (by exact hLr.drew) (by exact hlo) _)).mono ?_
                  rintro e w2 ⟨rfl, hf2⟩
                  refine hK _ _ ?_
                  clear hK K
                  refine wpAny_take (i := 15) (v := ?_) rfl (by kernel_rfl) (by kernel_rfl) (by kernel_rfl) (fun _ _ _ h => h) (Or.inl ⟨by rfl, by intro w; go_simp; with_reducible rfl⟩) ?_
                  refine wpAny_done (by kernel_rfl) ?_ _
                  go_wp2_with fail
                  go_meet
                  exact Or.inr ⟨rfl, hlo, hLr.of (Fr.trans ((Fr.refl _ _).drew) hf2.of_no) (hLr.rd.fr (Fr.trans ((Fr.refl _ _).drew) hf2) (no_no _)) rfl rfl rfl, hfr.trans (Fr.trans ((Fr.refl _ _).drew) hf2.of_no)⟩
                refine AllReady.cons rfl (fun K hK => ?_) AllReady.nil
                go_simp
                refine hK _ _ ?_
                clear hK K
                refine wpAny_take (i := 9) (v := ?_) rfl (by kernel_rfl) (by kernel_rfl) (by kernel_rfl) (fun _ _ _ h => h) (Or.inl ⟨by rfl, by intro w; go_simp; with_reducible rfl⟩) ?_
                refine wpAny_take (i := 11) (v := ?_) rfl (by kernel_rfl) (by kernel_rfl) (by kernel_rfl) (fun _ _ _ h => h) (Or.inl ⟨by rfl, by intro w; go_simp; with_reducible rfl⟩) ?_
                refine wpAny_ready (rs := [4]) (by kernel_rfl) (by simp) ?_
                refine AllReady.cons rfl (fun K hK => ?_) AllReady.nil
                go_simp
                refine hK _ _ ?_
                clear hK K
                refine wpAny_take (i := 12) (v := ?_) rfl (by kernel_rfl) (by kernel_rfl) (by kernel_rfl) (fun _ _ _ h => h) (Or.inl ⟨by rfl, by intro w; go_simp; with_reducible rfl⟩) ?_
                refine wpAny_ready (rs := [13]) (by kernel_rfl) (by simp) ?_
                refine AllReady.cons rfl (fun K hK => ?_) AllReady.nil
                go_simp
                refine hK _ _ ?_
                clear hK K
                refine wpAny_ready (rs := [14]) (by kernel_rfl) (by simp) ?_
                refine AllReady.cons rfl (fun K hK => ?_) AllReady.nil
                go_simp
                refine ((Live.no (w := World.drew wr) (by exact hLr.drew) (by exact hlo) _)).mono ?_
                rintro e w2 ⟨rfl, hf2⟩
                refine hK _ _ ?_
                clear hK K
                refine wpAny_take (i := 15) (v := ?_) rfl (by kernel_rfl) (by kernel_rfl) (by kernel_rfl) (fun _ _ _ h => h) (Or.inl ⟨by rfl, by intro w; go_simp; with_reducible rfl⟩) ?_
                refine wpAny_done (by kernel_rfl) ?_ _
                go_wp2_with fail
                go_meet
                exact Or.inr ⟨rfl, hlo, hLr.of (Fr.trans ((Fr.refl _ _).drew) hf2.of_no) (hLr.rd.fr (Fr.trans ((Fr.refl _ _).drew) hf2) (no_no _)) rfl rfl rfl, hfr.trans (Fr.trans ((Fr.refl _ _).drew) hf2.of_no)⟩
            case rest =>
              rcases hcut with ⟨rfl, hlo, ov2, hLx, hfx⟩ | ⟨rfl, hlo, hrx, hfx⟩
              · go_wp2
                refine ⟨⟨k + 1, _, ov2, by omega, by go_num, ?_, ?_, by simp; omega, hLx, hfx⟩, by simp [intOf]; omega⟩
                · rw [← HGO.out, show n - k = (n - (k + 1)) + 1 by omega]
                  conv => rhs; unfold Gz.copyGo
                  rw [if_neg (by omega), ← HIX.out]
                · rw [← HGO2.out, show n - k = (n - (k + 1)) + 1 by omega]
                  conv => rhs; unfold Gz.copyO
                  rw [if_neg (by omega), ← HIX.out]
              · go_wp2
                go_ret
                refine ⟨hfx, ?_⟩
                have e1 : Gz.copyGo s.lim far n out = none := by
                  rw [← HGO.out, show n - k = (n - (k + 1)) + 1 by omega]
                  unfold Gz.copyGo
                  rw [if_pos (by omega)]
                have e2 : Gz.copyO s.lim far n out = o := by
                  rw [← HGO2.out, show n - k = (n - (k + 1)) + 1 by omega]
                  unfold Gz.copyO
                  rw [if_pos (by omega)]
                rw [HD.out, e1, HO.out, e2]
                exact ⟨⟨_, _, hrx⟩, Or.inr ⟨by omega, by omega, _, 0, rfl, .sent 8 (by omega) (by omega)⟩⟩
          · go_wp2
            go_ret
            refine ⟨hfr, ?_⟩
            have e1 : Gz.copyGo s.lim far n out = some o := by
              rw [← HGO.out, show n - k = 0 by omega]
              rfl
            rw [HD.out, e1]
            exact ⟨rfl, ov', hLr⟩

theorem repeat_any (sp : Nat → Addr) (B rb db tb s1 s2 sy : Nat) (K : List Nat) (s : RS) (d out : List UInt8) (t : Gz.Table) (w : World) (hL : Live sp B rb db K d out w s) (hT : TableAt w K tb s1 s2 t) (hst : s.tb = .pointer (some ⟨tb, 0, none⟩))
    (hsy1 : 257 ≤ sy) (hsy2 : sy ≤ 285) (hpos : s.pos ≤ 8 * d.length) :
    Calls Tryz.prog 138 #[.pointer (some ⟨rb, 0, none⟩), .int .i64 sy] w
      (Ran3 sp B rb db K d w s (fun o q w' => ∃ ov', Live sp B rb db K d o w' { s with pos := q, ov := ov' }) (Gz.rep d t s.lim sy out s.pos) (Gz.repO d t s.lim sy out s.pos)) := by
  by_cases hl : s.pos + Gz.lenBits sy ≤ 8 * d.length
  · exact repeat_long sp B rb db tb s1 s2 sy K s d out t w hL hT hst hsy1 hsy2 hl
  · exact repeat_short sp B rb db sy K s d out t w hL hsy1 hsy2 hpos hl
end Go.Proofs.YtjjjlilflbddoaaGreatDoor
namespace Go.Proofs.YtjjjlilflbddoaaGreatDoor
open Go.RowKit

section
variable {sp : Nat → Addr} {B rb db : Nat} {K : List Nat} {d out : List UInt8} {w : World} {s : RS}
theorem Live.putz (h : Live sp B rb db K d out w s) (hl : out.length < s.lim) (c : UInt8) (z : Int) (hz : z = c.toNat) :
    Calls Tryz.prog 112 #[.pointer (some ⟨rb, 0, none⟩), .int .u8 z] w fun e w' => e = .returned .nilIface ∧ (∃ ov', Live sp B rb db K d (out ++ [c]) w' { s with ov := ov' }) ∧ Fr (Own B K) w w' := by
  subst hz; exact h.put hl c
theorem Live.noz (h : Live sp B rb db K d out w s) (hl : ¬ out.length < s.lim) (c : UInt8) (z : Int) (hz : z = c.toNat) :
    Calls Tryz.prog 112 #[.pointer (some ⟨rb, 0, none⟩), .int .u8 z] w fun e w' => e = .returned (.iface 248 (.pointer (some (sp 8)))) ∧ Fr No w w' := by
  subst hz; exact h.no hl c
end

/-- The table that a block's symbols are read by. -/
def TabAt (w : World) (K : List Nat) (v : Value) : Option Gz.Table → Prop
  | none => v = .pointer none
  | some t => ∃ tb s1 s2, v = .pointer (some ⟨tb, 0, none⟩) ∧ TableAt w K tb s1 s2 t

/-- The reader in memory stands where the machine stands. -/
structure At (sp : Nat → Addr) (B rb db : Nat) (K : List Nat) (d : List UInt8) (m : Gz.M) (w : World) (s : RS) : Prop where
  live : Live sp B rb db K d m.out w s
  pos : s.pos = m.pos
  pl : s.pl = m.pl
  la : s.la = m.la
  le : s.le = m.le
  tab : TabAt w K s.tb m.tab

/-- What no step changes. -/
structure Keeps (s s' : RS) : Prop where
  dv : s'.dv = s.dv
  ps : s'.ps = s.ps
  lim : s'.lim = s.lim
  ts : s'.ts = s.ts
theorem Keeps.refl (s : RS) : Keeps s s := ⟨rfl, rfl, rfl, rfl⟩
theorem Keeps.trans {s s' s2 : RS} (h : Keeps s s') (h2 : Keeps s' s2) : Keeps s s2 := ⟨h2.dv.trans h.dv, h2.ps.trans h.ps, h2.lim.trans h.lim, h2.ts.trans h.ts⟩

theorem TabAt.fr {w w' : World} {B : Nat} {K : List Nat} {v : Value} : ∀ {o : Option Gz.Table}, TabAt w K v o → Fr (Own B K) w w' → TabAt w' K v o
  | none, h, _ => h
  | some _, ⟨tb, s1, s2, h1, h2⟩, f => ⟨tb, s1, s2, h1, h2.fr f⟩

theorem At.to {sp : Nat → Addr} {B rb db : Nat} {K : List Nat} {d : List UInt8} {m : Gz.M} {w w' : World} {s s' : RS} (h : At sp B rb db K d m w s) (f : Fr (Own B K) w w') {o : List UInt8} {q : Nat} (hL : Live sp B rb db K d o w' s')
    (h1 : s'.pos = q) (h2 : s'.pl = s.pl) (h3 : s'.la = s.la) (h4 : s'.le = s.le) (h5 : s'.tb = s.tb) : At sp B rb db K d { m with out := o, pos := q } w' s' :=
  ⟨hL, h1, h2.trans h.pl, h3.trans h.la, h4.trans h.le, by rw [h5]; exact h.tab.fr f⟩

/-- How a step from m comes to its end. -/
def Ran1 (sp : Nat → Addr) (B rb db : Nat) (K : List Nat) (d : List UInt8) (m : Gz.M) (w : World) (s : RS) (r : Gz.Step) (e : Ending) (w' : World) : Prop :=
  Fr (Own B K) w w' ∧ match r with
  | .ok m' => e = .returned .nilIface ∧ ∃ s', At sp B rb db K d m' w' s' ∧ Keeps s s' ∧ s'.bg = s.bg
  | .error (k, o) => (∃ s' q, At sp B rb db K d { m with out := o, pos := q } w' s' ∧ Keeps s s' ∧ s'.bg = s.bg) ∧ ((k = 2 ∧ ShortP w' e) ∨ (3 ≤ k ∧ k ≤ 8 ∧ ∃ v n, e = .returned v ∧ Err sp w' v k n))

/-- A repetition, both ways. -/
theorem obeyS_rep {d : List UInt8} {lim : Nat} {t : Gz.Table} {m : Gz.M} {sy p : Nat} (h1 : ¬ sy < 256) (h2 : sy ≠ 256) (h3 : sy ≤ 285) :
    Gz.obeyS d lim t m sy p = match Gz.rep d t lim sy m.out p with
      | .error k => .error (k, Gz.repO d t lim sy m.out p)
      | .ok (o, q) => .ok { m with out := o, pos := q } := by
  unfold Gz.obeyS Gz.rep Gz.repO Gz.farBits
  rw [if_neg h1, if_neg h2, if_pos h3]
  cases Gz.num d (Gz.lenBits sy) p with
  | error k => rfl
  | ok x =>
    obtain ⟨v, p1⟩ := x
    simp only [Gz.Out.bind]
    cases Gz.dist d t.dists p1 with
    | error k => rfl
    | ok x =>
      obtain ⟨far, p2⟩ := x
      simp only [Gz.thenS, Gz.copyS]
      by_cases h4 : m.out.length < far
      · rw [if_pos h4, if_pos h4, if_pos h4]
      · rw [if_neg h4, if_neg h4, if_neg h4]
        cases hc : Gz.copyGo lim far (Gz.lenFrom.getD (sy - 257) 0 + v) m.out with
        | none => rw [if_pos rfl]
        | some o => rw [if_neg (by simp), Gz.copyO_eq _ _ _ _ _ hc]

set_option maxRecDepth 100000 in
set_option maxHeartbeats 1600000 in
theorem obey_any (sp : Nat → Addr) (B rb db sy : Nat) (K : List Nat) (s : RS) (d : List UInt8) (m : Gz.M) (t : Gz.Table) (w : World) (hA : At sp B rb db K d m w s) (ht : m.tab = some t) (hpos : m.pos ≤ 8 * d.length) :
    Calls Tryz.prog 119 #[.pointer (some ⟨rb, 0, none⟩), .int .i64 sy] w (Ran1 sp B rb db K d m w s (Gz.obeyS d s.lim t m sy m.pos)) := by
  have hL := hA.live
  obtain ⟨tb, s1, s2, hst, hT⟩ : ∃ tb s1 s2, s.tb = .pointer (some ⟨tb, 0, none⟩) ∧ TableAt w K tb s1 s2 t := by have := hA.tab; rw [ht] at this; exact this
  have HST := hide hst
  have HPOS := hide hA.pos
  have HA := hide hA
  clear hst hA ht
  have hne := neq_err
  have hnn := neq_nil
  by_cases h1 : sy < 256
  · have hz := ofNat_toNat sy h1
    have HZ := hide hz
    clear hz
    by_cases hlo : m.out.length < s.lim
    · have HD : Hid (Gz.obeyS d s.lim t m sy m.pos = .ok { m with out := m.out ++ [UInt8.ofNat sy], pos := m.pos }) := by unfold Hid Gz.obeyS; rw [if_pos h1, if_neg (by omega)]
      go_enter Tryz.func119, Tryz.ntmps119
      go_wp2_with (go_at_call 112; refine (hL.putz hlo (UInt8.ofNat sy) _ (by first | exact HZ.out | (rw [← HZ.out]; omega))).mono ?_; rintro e w1 ⟨rfl, ⟨ov2, hL2⟩, hf2⟩)
      go_ret
      refine ⟨hf2, ?_⟩
      rw [HD.out]
      exact ⟨rfl, _, HA.out.to hf2 hL2 HPOS.out rfl rfl rfl rfl, ⟨rfl, rfl, rfl, rfl⟩, rfl⟩
    · have HD : Hid (Gz.obeyS d s.lim t m sy m.pos = .error (8, m.out)) := by unfold Hid Gz.obeyS; rw [if_pos h1, if_pos (by omega)]
      go_enter Tryz.func119, Tryz.ntmps119
      go_wp2_with (go_at_call 112; refine (hL.noz hlo (UInt8.ofNat sy) _ (by first | exact HZ.out | (rw [← HZ.out]; omega))).mono ?_; rintro e w1 ⟨rfl, hf2⟩)
      go_ret
      refine ⟨hf2.of_no, ?_⟩
      rw [HD.out]
      exact ⟨⟨_, m.pos, HA.out.to hf2.of_no (hL.of hf2.of_no (hL.rd.fr hf2 (no_no _)) rfl rfl rfl) HPOS.out rfl rfl rfl rfl, Keeps.refl _, rfl⟩, Or.inr ⟨by omega, by omega, _, 0, rfl, .sent 8 (by omega) (by omega)⟩⟩
  · by_cases h2 : sy = 256
    · subst h2
      go_enter Tryz.func119, Tryz.ntmps119
      go_wp2_with (go_at_call 113; refine (endBlock_any rb s _ hL.rd).mono ?_; rintro e w1 ⟨rfl, hr1, hf1⟩)
      go_ret
      refine ⟨hL.one hf1, ?_⟩
      have : Gz.obeyS d s.lim t m 256 m.pos = .ok { m.over with pos := m.pos } := rfl
      rw [this]
      refine ⟨rfl, _, ⟨hL.of hf1 hr1 rfl rfl rfl, HPOS.out, ?_, HA.out.la, HA.out.le, rfl⟩, ⟨rfl, rfl, rfl, rfl⟩, rfl⟩
      show s.endPl = _
      unfold RS.endPl
      rw [HA.out.la]
      rfl
    · have h2' : ((sy : Int) == 256) = false := by simp; omega
      by_cases h3 : sy ≤ 285
      · have HE := hide (obeyS_rep (d := d) (lim := s.lim) (t := t) (m := m) (p := m.pos) h1 h2 h3)
        go_enter Tryz.func119, Tryz.ntmps119
        go_wp2_with fail
        refine (repeat_any sp B rb db tb s1 s2 sy K s d m.out t _ hL hT HST.out (by omega) h3 (by rw [HPOS.out]; exact hpos)).mono ?_
        rintro e w1 ⟨hf1, hres⟩
        rw [HPOS.out] at hres
        cases hrp : Gz.rep d t s.lim sy m.out m.pos with
        | ok okk =>
          obtain ⟨o, q⟩ := okk
          have HE2 : Hid (Gz.obeyS d s.lim t m sy m.pos = .ok { m with out := o, pos := q }) := by unfold Hid; rw [HE.out, hrp]
          rw [hrp] at hres
          clear hrp
          obtain ⟨rfl, ov2, hL2⟩ := hres
          go_wp2
          go_ret
          refine ⟨hf1, ?_⟩
          rw [HE2.out]
          exact ⟨rfl, _, HA.out.to hf1 hL2 rfl rfl rfl rfl rfl, ⟨rfl, rfl, rfl, rfl⟩, rfl⟩
        | error k =>
          have HE2 : Hid (Gz.obeyS d s.lim t m sy m.pos = .error (k, Gz.repO d t s.lim sy m.out m.pos)) := by unfold Hid; rw [HE.out, hrp]
          rw [hrp] at hres
          clear hrp
          obtain ⟨⟨q2, ov2, hL2⟩, hres⟩ := hres
          have HA2 := hide (HA.out.to hf1 hL2 rfl rfl rfl rfl rfl)
          clear hL2
          obtain ⟨rfl, p, n, rfl, hp⟩ | ⟨h3', h8', v, n, rfl, hv⟩ := hres
          · go_wp2
            refine bodyPost_panic rfl ⟨hf1, ?_⟩
            rw [HE2.out]
            exact ⟨⟨_, _, HA2.out, ⟨rfl, rfl, rfl, rfl⟩, rfl⟩, Or.inl ⟨rfl, p, n, rfl, hp⟩⟩
          · obtain ⟨ty, p, rfl⟩ := hv.iface
            go_wp2
            go_ret
            refine ⟨hf1, ?_⟩
            rw [HE2.out]
            exact ⟨⟨_, _, HA2.out, ⟨rfl, rfl, rfl, rfl⟩, rfl⟩, Or.inr ⟨h3', h8', _, n, rfl, hv⟩⟩
      · have hsent : w.cell? ⟨3, 0, none⟩ = some (.iface 248 (.pointer (some (sp 6)))) := hL.env.err 6 (by omega) (by omega)
        have HD : Hid (Gz.obeyS d s.lim t m sy m.pos = .error (6, m.out)) := by unfold Hid Gz.obeyS; rw [if_neg h1, if_neg h2, if_neg h3]
        go_enter Tryz.func119, Tryz.ntmps119
        go_wp2
        go_ret
        refine ⟨(Fr.refl _ _).alloc _, ?_⟩
        rw [HD.out]
        exact ⟨⟨_, m.pos, HA.out.to ((Fr.refl _ _).alloc _) (hL.of ((Fr.refl _ _).alloc _) (hL.rd.alloc _) rfl rfl rfl) HPOS.out rfl rfl rfl rfl, Keeps.refl _, rfl⟩, Or.inr ⟨by omega, by omega, _, 1, rfl, .fault _ _ _ _ _ (alloc_at w _) (.sent 6 (by omega) (by omega))⟩⟩
end Go.Proofs.YtjjjlilflbddoaaGreatDoor
