import Derived.Test.YtobohjjkcdhfeaaGreatDoorRep
namespace Go.Proofs.YtobohjjkcdhfeaaGreatDoor
open Go.RowKit

section
variable {sp : Nat → Addr} {B rb db : Nat} {K : List Nat} {d out : List UInt8} {w : World} {s : RS}
theorem Live.putz (h : Live sp B rb db K d out w s) (hl : out.length < s.lim) (c : UInt8) (z : Int) (hz : z = c.toNat) :
    Calls Tryz.prog 55 #[.pointer (some ⟨rb, 0, none⟩), .int .u8 z] w fun e w' => e = .returned .nilIface ∧ (∃ ov', Live sp B rb db K d (out ++ [c]) w' { s with ov := ov' }) ∧ Fr (Own B K) w w' := by
  subst hz; exact h.put hl c
theorem Live.noz (h : Live sp B rb db K d out w s) (hl : ¬ out.length < s.lim) (c : UInt8) (z : Int) (hz : z = c.toNat) :
    Calls Tryz.prog 55 #[.pointer (some ⟨rb, 0, none⟩), .int .u8 z] w fun e w' => e = .returned (.iface 159 (.pointer (some (sp 8)))) ∧ Fr No w w' := by
  subst hz; exact h.no hl c
end

/-- Where a reader stands behind a symbol. -/
def RS.plBy (s : RS) (b : Bool) : Nat := match b with
  | true => s.endPl
  | false => s.pl

set_option maxRecDepth 100000 in
set_option maxHeartbeats 1600000 in
theorem obey_any (sp : Nat → Addr) (B rb db tb s1 s2 sy : Nat) (K : List Nat) (s : RS) (d out : List UInt8) (t : Gz.Table) (w : World) (hL : Live sp B rb db K d out w s) (hT : TableAt w K tb s1 s2 t) (hst : s.tb = .pointer (some ⟨tb, 0, none⟩))
    (hpos : s.pos ≤ 8 * d.length) :
    Calls Tryz.prog 61 #[.pointer (some ⟨rb, 0, none⟩), .int .i64 sy] w
      (Ran2 sp B rb K w (fun x q w' => ∃ ov', Live sp B rb db K d x.1 w' { s with pos := q, ov := ov', pl := s.plBy x.2 }) (Gz.obey d t s.lim sy out s.pos)) := by
  have HST := hide hst
  clear hst
  have hne := neq_err
  have hnn := neq_nil
  by_cases h1 : sy < 256
  · have hz := ofNat_toNat sy h1
    have HZ := hide hz
    clear hz
    by_cases hlo : out.length < s.lim
    · go_enter Tryz.func61, Tryz.ntmps61
      go_wp2_with (go_at_call 55; refine (hL.putz hlo (UInt8.ofNat sy) _ (by first | exact HZ.out | (rw [← HZ.out]; omega))).mono ?_; rintro e w1 ⟨rfl, ⟨ov2, hL2⟩, hf2⟩)
      go_ret
      refine ⟨hf2, ?_⟩
      have : Gz.obey d t s.lim sy out s.pos = .ok ((out ++ [UInt8.ofNat sy], false), s.pos) := by unfold Gz.obey; rw [if_pos h1, if_neg (by omega)]
      rw [this]
      exact ⟨rfl, ov2, hL2⟩
    · go_enter Tryz.func61, Tryz.ntmps61
      go_wp2_with (go_at_call 55; refine (hL.noz hlo (UInt8.ofNat sy) _ (by first | exact HZ.out | (rw [← HZ.out]; omega))).mono ?_; rintro e w1 ⟨rfl, hf2⟩)
      go_ret
      refine ⟨hf2.of_no, ?_⟩
      have : Gz.obey d t s.lim sy out s.pos = .error 8 := by unfold Gz.obey; rw [if_pos h1, if_pos (by omega)]
      rw [this]
      exact ⟨⟨_, hL.rd.fr hf2 (no_no _)⟩, Or.inr ⟨by omega, by omega, _, 0, rfl, .sent 8 (by omega) (by omega)⟩⟩
  · by_cases h2 : sy = 256
    · subst h2
      go_enter Tryz.func61, Tryz.ntmps61
      go_wp2_with (go_at_call 56; refine (endBlock_any rb s _ hL.rd).mono ?_; rintro e w1 ⟨rfl, hr1, hf1⟩)
      go_ret
      refine ⟨hL.one hf1, ?_⟩
      have : Gz.obey d t s.lim 256 out s.pos = .ok ((out, true), s.pos) := rfl
      rw [this]
      exact ⟨rfl, s.ov, hL.of hf1 hr1 rfl rfl rfl⟩
    · have h2' : ((sy : Int) == 256) = false := by simp; omega
      by_cases h3 : sy ≤ 285
      · go_enter Tryz.func61, Tryz.ntmps61
        go_wp2_with fail
        refine (repeat_any sp B rb db tb s1 s2 sy K s d out t _ hL hT HST.out (by omega) h3 hpos).mono ?_
        rintro e w1 ⟨hf1, hres⟩
        have HD : Hid (Gz.obey d t s.lim sy out s.pos = (Gz.rep d t s.lim sy out s.pos).bind fun o p1 => .ok ((o, false), p1)) := by unfold Hid Gz.obey; rw [if_neg h1, if_neg h2, if_pos h3]
        cases hrp : Gz.rep d t s.lim sy out s.pos with
        | ok okk =>
          obtain ⟨o, q⟩ := okk
          have HE : Hid (Gz.obey d t s.lim sy out s.pos = .ok ((o, false), q)) := by unfold Hid; rw [HD.out, hrp]; rfl
          rw [hrp] at hres
          clear hrp
          obtain ⟨rfl, ov2, hL2⟩ := hres
          go_wp2
          go_ret
          refine ⟨hf1, ?_⟩
          rw [HE.out]
          exact ⟨rfl, ov2, hL2⟩
        | error k =>
          have HE : Hid (Gz.obey d t s.lim sy out s.pos = .error k) := by unfold Hid; rw [HD.out, hrp]; rfl
          rw [hrp] at hres
          clear hrp
          obtain ⟨hs', ⟨rfl, p, m, rfl, hp⟩ | ⟨h3', h8', v, m, rfl, hv⟩⟩ := hres
          · go_wp2
            refine bodyPost_panic rfl ⟨hf1, ?_⟩
            rw [HE.out]
            exact ⟨hs', Or.inl ⟨rfl, p, m, rfl, hp⟩⟩
          · obtain ⟨ty, p, rfl⟩ := hv.iface
            go_wp2
            go_ret
            refine ⟨hf1, ?_⟩
            rw [HE.out]
            exact ⟨hs', Or.inr ⟨h3', h8', _, m, rfl, hv⟩⟩
      · have hsent : w.cell? ⟨3, 0, none⟩ = some (.iface 159 (.pointer (some (sp 6)))) := hL.env.err 6 (by omega) (by omega)
        go_enter Tryz.func61, Tryz.ntmps61
        go_wp2
        go_ret
        refine ⟨(Fr.refl _ _).alloc _, ?_⟩
        have : Gz.obey d t s.lim sy out s.pos = .error 6 := by unfold Gz.obey; rw [if_neg h1, if_neg h2, if_neg h3]
        rw [this]
        exact ⟨⟨_, hL.rd.alloc _⟩, Or.inr ⟨by omega, by omega, _, 1, rfl, .fault _ _ _ _ _ (alloc_at w _) (.sent 6 (by omega) (by omega))⟩⟩
end Go.Proofs.YtobohjjkcdhfeaaGreatDoor
