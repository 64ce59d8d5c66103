import Derived.Test.YtjjjlilflbddoaaGreatDoorBit
namespace Go.Proofs.YtjjjlilflbddoaaGreatDoor
open Go.RowKit

theorem sh_or (t b : Nat) (ht : t < 65536) (hb : b < 2) : bits BinOp.or IntKind.i64 ((t : Int) * 2) (b : Int) = ((2 * t + b : Nat) : Int) := by
  rw [or_high _ _ (by omega) (by omega) (by omega) (by omega) (by omega)]; omega

set_option maxHeartbeats 800000 in
theorem symbol_any (sp : Nat → Addr) (rb db cb co sb : Nat) (s : RS) (d : List UInt8) (c : Gz.Code) (w : World) (hn : d.length ≤ 4000) (hdb : db ≠ rb) (hcb : cb ≠ rb) (hsb : sb ≠ rb) (h13 : 16 ≤ rb)
    (hE : Env sp w) (hr : Rd w rb s) (hd : Dat w db s.dv d) (hc : CodeAt w cb co sb c) (hg : Good c) :
    Calls Tryz.prog 118 #[.pointer (some ⟨rb, 0, none⟩), .pointer (some ⟨cb, co, none⟩)] w
      (Ran sp w rb s (fun v => .tuple #[.int .i64 (v : Nat), .nilIface]) (fun v => .tuple #[.int .i64 0, v]) (Gz.sym d c s.pos)) := by
  obtain ⟨g1, g2, g3, g4⟩ := hg
  obtain ⟨sa, scap, hs16, hsy⟩ := hc.syms
  go_enter Tryz.func118, Tryz.ntmps118
  go_wp2
  go_loopw [6, 7, 8, 9] (fun vt vf vs vn wr => ∃ k taken first shorter p : Nat, 1 ≤ k ∧ k ≤ c.longest + 1 ∧ vt = .int .i64 taken ∧ vf = .int .i64 first ∧ vs = .int .i64 shorter ∧ vn = .int .i64 k ∧
      first ≤ taken ∧ taken < 2 ^ (k - 1) ∧ shorter + c.count.getD 0 0 = (c.count.take k).sum ∧ Gz.symGo d c (c.longest + 1 - k) k taken first shorter p = Gz.sym d c s.pos ∧ Rd wr rb { s with pos := p } ∧ Fr (One rb) w wr) (fun _ _ _ i _ => 16 - (intOf i).toNat)
  case atStart => exact ⟨1, 0, 0, 0, s.pos, by omega, by omega, rfl, rfl, rfl, rfl, by omega, by decide, by rw [sum_take_succ _ _ (by omega)]; simp, rfl, hr, Fr.refl _ _⟩
  case round =>
    obtain ⟨k, taken, first, shorter, p, hk1, hk, rfl, rfl, rfl, rfl, hft, ht2, hsh, hgo, hrr, hfr⟩ := hrel
    have hlong := (hfr.cell (p := ⟨cb, co + 17, none⟩) hc.lt (one_ne hcb)).trans hc.longest
    by_cases hkl : k ≤ c.longest
    · have h2k : 2 ^ (k - 1) ≤ 2 ^ 14 := Nat.pow_le_pow_right (by decide) (by omega)
      have hcnt := hc.count k (by omega)
      have hcs := sum_take_succ c.count k (by omega)
      have hcl := sum_take_le c.count (k + 1)
      have hm : c.longest + 1 - k = (c.longest - k) + 1 := by omega
      by_cases hb : p < 8 * d.length
      · have hbv := bitv_lt d p
        obtain ⟨tk, htk⟩ : ∃ tk, tk = 2 * taken + Gz.bitv d p := ⟨_, rfl⟩
        obtain ⟨cn, hcn⟩ : ∃ cn, cn = c.count.getD k 0 := ⟨_, rfl⟩
        rw [← hcn] at hcnt hcs
        have HG : Hid (Gz.symGo d c (c.longest + 1 - k) k taken first shorter p = Gz.sym d c s.pos) := hgo
        have HT : Hid (tk = 2 * taken + Gz.bitv d p) := htk
        have HC : Hid (cn = c.count.getD k 0) := hcn
        have HS : Hid (shorter + c.count.getD 0 0 = (c.count.take k).sum) := hsh
        have hcn' : cn ≤ 320 := by omega
        have hsn' : shorter ≤ 320 := by omega
        have hkc : cn + shorter ≤ c.symbols.length := by omega
        have htk1 : 2 * first ≤ tk := by omega
        have htk2 : tk < 2 ^ 15 := by omega
        have hor := sh_or taken (Gz.bitv d p) (by omega) hbv
        rw [← htk] at hor
        clear htk hgo hcn hsh hcs hcl hm
        by_cases hhit : tk < 2 * first + cn
        · obtain ⟨rfl, hsl, hsc⟩ := hsy (shorter + tk - first * 2) (by omega)
          go_wp2_with (go_at_call 133; refine (bit_ok rb db _ d _ hn hrr (hd.fr hfr (one_ne hdb)) hb).mono ?_; rintro e w1 ⟨rfl, hr1, hf1⟩; have hc1 := (hfr.trans hf1).cell (p := ⟨cb, co + k, none⟩) hc.lt (one_ne hcb); rw [hcnt] at hc1; have hc2 := (hfr.trans hf1).cell (p := ⟨cb, co + 16, none⟩) hc.lt (one_ne hcb); rw [hs16] at hc2; have hc3 := (hfr.trans hf1).cell (p := ⟨sb, shorter + tk - first * 2, none⟩) hsl (one_ne hsb); rw [hsc] at hc3)
          go_ret2
          refine ⟨hfr.trans hf1, ?_⟩
          have e1 : Gz.sym d c s.pos = .ok ((c.symbols.getD (shorter + tk - first * 2) 0), (p + 1)) := by
            rw [← HG.out, show c.longest + 1 - k = (c.longest - k) + 1 by omega]
            simp only [Gz.symGo]
            rw [if_pos hb, ← HT.out, ← HC.out, if_pos hhit, Nat.mul_comm first 2]
          rw [e1]
          exact ⟨rfl, hr1⟩
        · go_wp2_with (go_at_call 133; refine (bit_ok rb db _ d _ hn hrr (hd.fr hfr (one_ne hdb)) hb).mono ?_; rintro e w1 ⟨rfl, hr1, hf1⟩; have hc1 := (hfr.trans hf1).cell (p := ⟨cb, co + k, none⟩) hc.lt (one_ne hcb); rw [hcnt] at hc1)
          refine ⟨⟨k + 1, tk, first * 2 + cn, shorter + cn, p + 1, by omega, by omega, rfl, by go_num, by go_num, by go_num, by omega, ?_, ?_, ?_, hr1, hfr.trans hf1⟩, by simp [intOf]; omega⟩
          · rw [HT.out]
            have : 2 ^ (k + 1 - 1) = 2 * 2 ^ (k - 1) := by rw [show k + 1 - 1 = (k - 1) + 1 by omega, Nat.pow_succ]; omega
            omega
          · rw [sum_take_succ c.count k (by omega), ← HS.out, ← HC.out]; omega
          · rw [← HG.out, show c.longest + 1 - k = (c.longest - k) + 1 by omega, show c.longest + 1 - (k + 1) = c.longest - k by omega]
            conv => rhs; unfold Gz.symGo
            rw [if_pos hb, ← HT.out, ← HC.out, if_neg hhit, Nat.mul_comm first 2]
      · have HG : Hid (Gz.symGo d c (c.longest + 1 - k) k taken first shorter p = Gz.sym d c s.pos) := hgo
        clear hgo hsh hcs hcl hm
        go_wp2_with (go_at_call 133; refine (bit_short rb db _ d _ hn hrr (hd.fr hfr (one_ne hdb)) hb).mono ?_; rintro e w1 ⟨⟨q, m, rfl, hq⟩, hr1, hf1⟩)
        refine bodyPost_panic rfl ⟨hfr.trans hf1.of_no, ?_⟩
        have e1 : Gz.sym d c s.pos = .error 2 := by
          rw [← HG.out, show c.longest + 1 - k = (c.longest - k) + 1 by omega]
          simp only [Gz.symGo]
          rw [if_neg hb]
        rw [e1]
        exact ⟨⟨_, hr1⟩, Or.inl ⟨rfl, q, m, rfl, hq⟩⟩
    · have HG : Hid (Gz.symGo d c (c.longest + 1 - k) k taken first shorter p = Gz.sym d c s.pos) := hgo
      have hsent := (hE.fr hfr (fun k hk => one_ne (by omega))).err 6 (by omega) (by omega)
      have hsent : wr.cell? ⟨3, 0, none⟩ = some (.iface 248 (.pointer (some (sp 6)))) := hsent
      clear hgo hsh
      go_wp2
      go_region
      all_goals
        go_wp2
        go_ret2
        refine ⟨(hfr.drew).alloc _, ?_⟩
        have e1 : Gz.sym d c s.pos = .error 6 := by
          rw [← HG.out, show c.longest + 1 - k = 0 by omega]
          rfl
        rw [e1]
        exact ⟨⟨p, hrr.alloc _⟩, Or.inr ⟨by omega, by omega, _, 1, rfl, .fault _ _ _ _ _ (alloc_at wr.drew _) (.sent 6 (by omega) (by omega))⟩⟩
end Go.Proofs.YtjjjlilflbddoaaGreatDoor
