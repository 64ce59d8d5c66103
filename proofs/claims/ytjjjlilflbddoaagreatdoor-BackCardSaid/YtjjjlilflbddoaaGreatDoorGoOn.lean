import Derived.Test.YtjjjlilflbddoaaGreatDoorAsk2
import Derived.Test.YtjjjlilflbddoaaGreatDoorQStor
namespace Go.Proofs.YtjjjlilflbddoaaGreatDoor
open Go.RowKit

section
variable {sp : Nat → Addr} {B rb db : Nat} {K : List Nat} {d out : List UInt8} {w w' : World} {s s' : RS}
theorem Fr.up {B : Nat} {K K' : List Nat} {w w' : World} (f : Fr (Own B K') w w') (hK : ∀ k, k ∈ K → k ∈ K') : Fr (Own B K) w w' := f.mono (fun k _ e => ⟨e.1, fun h => e.2 (hK k h)⟩)
theorem Live.ovlt (h : Live sp B rb db K d out w s) {k : Nat} (hk : s.ov.ownBlock = some k) : k < w.heap.size := by
  rcases h.row.2 with ⟨h1, _⟩ | ⟨g, cap, cur, h1, _, h2, _⟩
  · rw [h1] at hk; cases hk
  · rw [h1] at hk; simp [Value.ownBlock] at hk; subst hk; exact lt_of h2
theorem Live.grow (h : Live sp B rb db K d out w s) (h2 : Live sp B rb db K d out w' s') (hov : s'.ov = s.ov) (L : List Nat) (hL : ∀ k, k ∈ L → w.heap.size ≤ k ∧ k < w'.heap.size) : Live sp B rb db (L ++ K) d out w' s' := by
  refine ⟨h2.env, h2.rd, h2.dat, h2.row, fun k hk => ⟨(h2.apart k hk).1, fun hm => ?_⟩, h2.b13, h2.bsz, h2.brb, List.mem_append_right _ h2.dbK, fun hm => ?_, fun k hk => ?_, h2.lim, h2.len, h2.dlen⟩
  · rcases List.mem_append.1 hm with hm | hm
    · have := h.ovlt (hov ▸ hk); have := (hL k hm).1; omega
    · exact (h2.apart k hk).2 hm
  · rcases List.mem_append.1 hm with hm | hm
    · have := h.rd.lt; have := (hL rb hm).1; omega
    · exact h2.rbK hm
  · rcases List.mem_append.1 hk with hm | hm
    · exact (hL k hm).2
    · exact h2.klt k hm
theorem Live.same {K' : List Nat} (h : Live sp B rb db K d out w s) (hK : ∀ k, k ∈ K ↔ k ∈ K') : Live sp B rb db K' d out w s :=
  ⟨h.env, h.rd, h.dat, h.row, fun k hk => ⟨(h.apart k hk).1, fun hm => (h.apart k hk).2 ((hK k).2 hm)⟩, h.b13, h.bsz, h.brb, (hK _).1 h.dbK, fun hm => h.rbK ((hK _).2 hm), fun k hk => h.klt k ((hK k).2 hk), h.lim, h.len, h.dlen⟩
theorem TabAt.sub {K' : List Nat} {v : Value} : ∀ {o : Option Gz.Table}, TabAt w K v o → (∀ k, k ∈ K → k ∈ K') → TabAt w K' v o
  | none, h, _ => h
  | some _, ⟨tb, s1, s2, h1, h2⟩, hK => ⟨tb, s1, s2, h1, h2.sub hK⟩
theorem At.same {K' : List Nat} {m : Gz.M} (h : At sp B rb db K d m w s) (hK : ∀ k, k ∈ K ↔ k ∈ K') : At sp B rb db K' d m w s :=
  ⟨h.live.same hK, h.pos, h.pl, h.la, h.le, h.tab.sub (fun k hk => (hK k).1 hk)⟩
end

theorem TableAt.more {w : World} {K : List Nat} {tb s1 s2 : Nat} {t : Gz.Table} (h : TableAt w [tb, s1, s2] tb s1 s2 t) : TableAt w ([tb, s1, s2] ++ K) tb s1 s2 t :=
  ⟨h.syms, h.dists, h.g1, h.g2, by simp, by simp, by simp, h.tg⟩

/-- How a block's head comes to its end. -/
def RanH (sp : Nat → Addr) (B rb db : Nat) (K : List Nat) (d : List UInt8) (m : Gz.M) (w : World) (s : RS) (e : Ending) (w' : World) : Prop :=
  Fr (Own B K) w w' ∧ match Gz.step d s.lim m with
  | .ok m' => e = .returned .nilIface ∧ ∃ L s', (∀ k, k ∈ L → w.heap.size ≤ k ∧ k < w'.heap.size) ∧ At sp B rb db (L ++ K) d m' w' s' ∧ Keeps s s'
  | .error (k, o) => (∃ s' q, At sp B rb db K d { m with out := o, pos := q } w' s' ∧ Keeps s s' ∧ s'.bg = m.pos) ∧ ((k = 2 ∧ ShortP w' e) ∨ (3 ≤ k ∧ k ≤ 8 ∧ ∃ v n, e = .returned v ∧ Err sp w' v k n))

/-- The fixed lengths, behind a name. -/
def fixedLs : List Nat := (List.range 320).map Gz.fixedLen
theorem fixedLs_len : fixedLs.length = 320 := by simp [fixedLs]
theorem fixed_at (w : World) : Calls Tryz.prog 49 #[] w fun e w' => e = .returned (.agg (uvs fixedLs)) ∧ Fr No w w' := fixedLengths_any w
theorem lens_fixed : Lens fixedLs := by
  unfold fixedLs
  intro i hi
  have h : i < 320 := by simpa using hi
  have e : ((List.range 320).map Gz.fixedLen).getD i 0 = Gz.fixedLen i := by simp [List.getD, h]
  rw [e]; unfold Gz.fixedLen
  split <;> (try omega); split <;> (try omega); split <;> (try omega); split <;> omega

set_option maxRecDepth 100000 in
set_option maxHeartbeats 1600000 in
theorem head_any (sp : Nat → Addr) (B rb db : Nat) (K : List Nat) (s : RS) (d : List UInt8) (m : Gz.M) (w : World) (hA : At sp B rb db K d m w s) (hpl : m.pl = 0) (hpos : m.pos ≤ 8 * d.length) :
    Calls Tryz.prog 84 #[.pointer (some ⟨rb, 0, none⟩)] w (RanH sp B rb db K d m w s) := by
  have hL := hA.live
  have HA := hide hA
  have HSP := hide (show s.pos = m.pos from hA.pos)
  have hpos : s.pos ≤ 8 * d.length := by rw [hA.pos]; exact hpos
  have HSTEP : Hid (Gz.step d s.lim m = Gz.thenS (Gz.headBits d s.pos) m.out (Gz.headS m)) := by unfold Hid Gz.step; rw [hpl, hA.pos]; rfl
  clear hA hpl
  have hn := hL.dlen
  have hdb := hL.ne hL.dbK
  have k1 := hL.rd.c1
  have k2 := hL.rd.c2
  have e2 := hL.rd.fz 3
  have hr1 : Rd (w.setCell ⟨rb, 3, none⟩ (.int .i64 s.pos)) rb { s with bg := s.pos } := hL.rd.s2 _ _ rfl (by omega)
  have hf1 : Fr (One rb) w (w.setCell ⟨rb, 3, none⟩ (.int .i64 s.pos)) := (Fr.refl _ _).setCell (fun _ => one_self rb) _
  have hd1 := hL.dat.fr hf1 (one_ne hdb)
  by_cases h1 : s.pos + 1 ≤ 8 * d.length
  · have v1 := val_lt d s.pos 1
    by_cases h3 : s.pos + 1 + 2 ≤ 8 * d.length
    · have v2 := val_lt d (s.pos + 1) 2
      have HC : Hid (Gz.step d s.lim m =
          if Gz.val d (s.pos + 1) 2 = 0 then .ok { m with pl := 1, la := Gz.val d s.pos 1 == 1, pos := s.pos + 1 + 2 }
          else if Gz.val d (s.pos + 1) 2 = 1 then .ok { m with pl := 4, la := Gz.val d s.pos 1 == 1, tab := some Gz.fixed, pos := s.pos + 1 + 2 }
          else if Gz.val d (s.pos + 1) 2 = 2 then .ok { m with pl := 3, la := Gz.val d s.pos 1 == 1, pos := s.pos + 1 + 2 }
          else .error (3, m.out)) := by
        unfold Hid; rw [HSTEP.out]; simp only [Gz.headBits, Gz.num, if_pos h1, if_pos h3, Gz.Out.bind, Gz.thenS, Gz.headS]
      obtain ⟨lb, hlb⟩ : ∃ lb : Bool, lb = (Gz.val d s.pos 1 == 1) := ⟨_, rfl⟩
      have hlbz : ((Gz.val d s.pos 1 : Int) == 1) = lb := by rw [hlb, Bool.eq_iff_iff]; simp; omega
      rw [← hlb] at HC
      clear hlb
      have hv : Gz.val d (s.pos + 1) 2 = 0 ∨ Gz.val d (s.pos + 1) 2 = 1 ∨ Gz.val d (s.pos + 1) 2 = 2 ∨ Gz.val d (s.pos + 1) 2 = 3 := by omega
      have HV := hide hv
      clear hv
      go_enter Tryz.func84, Tryz.ntmps84
      go_wp2_with fail
      refine (number_ok rb db _ d 1 _ hn hdb hr1 hd1 (by omega) h1).mono ?_
      rintro e w2 ⟨rfl, hr2, hf2⟩
      have hd2 := hd1.fr hf2 (one_ne hdb)
      go_wp2_with fail
      refine (number_ok rb db _ d 2 _ hn hdb hr2 hd2 (by omega) h3).mono ?_
      rintro e w3 ⟨rfl, hr3, hf3⟩
      have hfw := hf1.trans (hf2.trans hf3)
      have hr3 : Rd w3 rb { s with bg := s.pos, pos := s.pos + 1 + 2 } := hr3
      have hL3 := hL.of hfw hr3 rfl rfl rfl
      have c5 := hr3.c5
      have f5 := hr3.fz 6
      have c6 := hr3.c6
      have f6 := hr3.fz 7
      have hsent : w3.cell? ⟨0, 0, none⟩ = some (.iface 248 (.pointer (some (sp 3)))) := hL3.env.err 3 (by omega) (by omega)
      rcases HV.out with h0 | h0 | h0 | h0
      · have HD : Hid (Gz.step d s.lim m = .ok { m with pl := 1, la := lb, pos := s.pos + 1 + 2 }) := by unfold Hid; rw [HC.out, if_pos h0]
        rw [h0]
        clear h0
        go_wp2
        go_ret
        have hr4 := (hr3.s5 1 1 rfl).s6 lb
        have hf4 : Fr (One rb) w3 ((w3.setCell ⟨rb, 6, none⟩ (.int .i64 1)).setCell ⟨rb, 7, none⟩ (.bool lb)) := ((Fr.refl _ _).setCell (fun _ => one_self rb) _).setCell (fun _ => one_self rb) _
        refine ⟨hL.one (hfw.trans hf4), ?_⟩
        rw [HD.out]
        exact ⟨rfl, [], _, fun _ h => absurd h (by simp), ⟨hL3.of hf4 hr4 rfl rfl rfl, rfl, rfl, rfl, HA.out.le, HA.out.tab.fr (hL.one (hfw.trans hf4))⟩, ⟨rfl, rfl, rfl, rfl⟩⟩
      · have HD : Hid (Gz.step d s.lim m = .ok { m with pl := 4, la := lb, tab := some Gz.fixed, pos := s.pos + 1 + 2 }) := by unfold Hid; rw [HC.out, if_neg (by omega), if_pos h0]
        rw [h0]
        clear h0
        go_wp2_with fail
        refine (fixed_at _).mono ?_
        rintro e w4 ⟨rfl, hf4⟩
        go_wp2_with fail
        refine (makeTable_any fixedLs _ lens_fixed fixedLs_len).mono ?_
        rintro e w5 ⟨tb, s1, s2, rfl, ht0, ht1, ht2, ht3, ht4, ht5, hTab, hf5⟩
        have hf35 := hf4.trans hf5
        have hr5 := hr3.fr hf35 (no_no _)
        have c8 := hr5.c8
        have f8 := hr5.fz 9
        have c55 := hr5.c5
        have f55 := hr5.fz 6
        have c56 := hr5.c6
        have f56 := hr5.fz 7
        go_wp2
        go_ret
        have hr6 := ((hr5.s8 (.pointer (some ⟨tb, 0, none⟩))).s5 4 4 rfl).s6 lb
        have hf6 : Fr (One rb) w5 (((w5.setCell ⟨rb, 9, none⟩ (.pointer (some ⟨tb, 0, none⟩))).setCell ⟨rb, 6, none⟩ (.int .i64 4)).setCell ⟨rb, 7, none⟩ (.bool lb)) := (((Fr.refl _ _).setCell (fun _ => one_self rb) _).setCell (fun _ => one_self rb) _).setCell (fun _ => one_self rb) _
        have hf36 := (hf35.of_no (T := One rb)).trans hf6
        have hsz := hf4.size
        have hsw := hfw.size
        have hlt := hr3.lt
        have hLs : ∀ k, k ∈ [tb, s1, s2] → w3.heap.size ≤ k ∧ k < (((w5.setCell ⟨rb, 9, none⟩ (.pointer (some ⟨tb, 0, none⟩))).setCell ⟨rb, 6, none⟩ (.int .i64 4)).setCell ⟨rb, 7, none⟩ (.bool lb)).heap.size := by
          intro k hk
          have hs6 := hf6.size
          simp only [List.mem_cons, List.not_mem_nil, or_false] at hk
          rcases hk with rfl | rfl | rfl <;> omega
        have hLf := hL3.grow (hL3.of hf36 hr6 rfl rfl rfl) rfl [tb, s1, s2] hLs
        refine ⟨hL.one (hfw.trans hf36), ?_⟩
        rw [HD.out]
        have hT2 : TableAt _ [tb, s1, s2] tb s1 s2 Gz.fixed := ⟨hTab.syms.fr hf6 (one_ne (by omega)) (one_ne (by omega)), hTab.dists.fr hf6 (one_ne (by omega)) (one_ne (by omega)), hTab.g1, hTab.g2, hTab.k0, hTab.k1, hTab.k2, hTab.tg.fr hf6 (one_ne (by omega)) (one_ne (by omega)) (one_ne (by omega))⟩
        exact ⟨rfl, [tb, s1, s2], _, fun k hk => ⟨Nat.le_trans hsw (hLs k hk).1, (hLs k hk).2⟩, ⟨hLf, rfl, rfl, rfl, HA.out.le, tb, s1, s2, rfl, hT2.more⟩, ⟨rfl, rfl, rfl, rfl⟩⟩
      · have HD : Hid (Gz.step d s.lim m = .ok { m with pl := 3, la := lb, pos := s.pos + 1 + 2 }) := by unfold Hid; rw [HC.out, if_neg (by omega), if_neg (by omega), if_pos h0]
        rw [h0]
        clear h0
        go_wp2
        go_ret
        have hr4 := (hr3.s5 3 3 rfl).s6 lb
        have hf4 : Fr (One rb) w3 ((w3.setCell ⟨rb, 6, none⟩ (.int .i64 3)).setCell ⟨rb, 7, none⟩ (.bool lb)) := ((Fr.refl _ _).setCell (fun _ => one_self rb) _).setCell (fun _ => one_self rb) _
        refine ⟨hL.one (hfw.trans hf4), ?_⟩
        rw [HD.out]
        exact ⟨rfl, [], _, fun _ h => absurd h (by simp), ⟨hL3.of hf4 hr4 rfl rfl rfl, rfl, rfl, rfl, HA.out.le, HA.out.tab.fr (hL.one (hfw.trans hf4))⟩, ⟨rfl, rfl, rfl, rfl⟩⟩
      · have HD : Hid (Gz.step d s.lim m = .error (3, m.out)) := by unfold Hid; rw [HC.out, if_neg (by omega), if_neg (by omega), if_neg (by omega)]
        rw [h0]
        clear h0
        go_wp2
        go_ret
        refine ⟨(hL.one hfw).alloc _, ?_⟩
        rw [HD.out]
        exact ⟨⟨_, _, HA.out.to ((hL.one hfw).alloc _) (hL3.of ((Fr.refl _ _).alloc _) (hr3.alloc _) rfl rfl rfl) rfl rfl rfl rfl rfl, ⟨rfl, rfl, rfl, rfl⟩, HSP.out⟩, Or.inr ⟨by omega, by omega, _, 1, rfl, .fault _ _ _ _ _ (alloc_at w3 _) (.sent 3 (by omega) (by omega))⟩⟩
    · have HD : Hid (Gz.step d s.lim m = .error (2, m.out)) := by unfold Hid; rw [HSTEP.out]; simp only [Gz.headBits, Gz.num, if_pos h1, if_neg h3, Gz.Out.bind, Gz.thenS]
      go_enter Tryz.func84, Tryz.ntmps84
      go_wp2_with fail
      refine (number_ok rb db _ d 1 _ hn hdb hr1 hd1 (by omega) h1).mono ?_
      rintro e w2 ⟨rfl, hr2, hf2⟩
      have hd2 := hd1.fr hf2 (one_ne hdb)
      go_wp2_with fail
      refine (number_short rb db _ d 2 _ hn hdb hr2 hd2 (by omega) (by omega) h3).mono ?_
      rintro e w3 ⟨⟨p', n, rfl, hp'⟩, ⟨q2, hr3⟩, hf3⟩
      go_wp2
      refine bodyPost_panic rfl ⟨hL.one (hf1.trans (hf2.trans hf3)), ?_⟩
      rw [HD.out]
      exact ⟨⟨_, q2, HA.out.to (hL.one (hf1.trans (hf2.trans hf3))) (hL.of (hf1.trans (hf2.trans hf3)) hr3 rfl rfl rfl) rfl rfl rfl rfl rfl, ⟨rfl, rfl, rfl, rfl⟩, HSP.out⟩, Or.inl ⟨rfl, p', n, rfl, hp'⟩⟩
  · have HD : Hid (Gz.step d s.lim m = .error (2, m.out)) := by unfold Hid; rw [HSTEP.out]; simp only [Gz.headBits, Gz.num, if_neg h1, Gz.Out.bind, Gz.thenS]
    go_enter Tryz.func84, Tryz.ntmps84
    go_wp2_with fail
    refine (number_short rb db _ d 1 _ hn hdb hr1 hd1 (by omega) (by omega) h1).mono ?_
    rintro e w2 ⟨⟨p', n, rfl, hp'⟩, ⟨q2, hr2⟩, hf2⟩
    go_wp2
    refine bodyPost_panic rfl ⟨hL.one (hf1.trans hf2), ?_⟩
    rw [HD.out]
    exact ⟨⟨_, q2, HA.out.to (hL.one (hf1.trans hf2)) (hL.of (hf1.trans hf2) hr2 rfl rfl rfl) rfl rfl rfl rfl rfl, ⟨rfl, rfl, rfl, rfl⟩, HSP.out⟩, Or.inl ⟨rfl, p', n, rfl, hp'⟩⟩
end Go.Proofs.YtjjjlilflbddoaaGreatDoor
