import Derived.Test.YtjjjlilflbddoaaGreatDoorBase
namespace Go.Proofs.YtjjjlilflbddoaaGreatDoor
open Go.RowKit

theorem and_one (c e : Nat) (h : c < 256) : wrap64 (bits BinOp.and IntKind.u8 ((c : Int) / 2 ^ e) 1) = ((c / 2 ^ e % 2 : Nat) : Int) := by
  have e1 : ((c : Int) / 2 ^ e) = ((c / 2 ^ e : Nat) : Int) := by simp
  have h1 : c / 2 ^ e < 256 := Nat.lt_of_le_of_lt (Nat.div_le_self _ _) h
  rw [e1]
  generalize c / 2 ^ e = q at *
  have h2 := bits_mask .u8 8 (by decide) wraps_u8 1 (by decide) (q : Int) (by omega) (by omega)
  have h3 : ((2 : Int) ^ 1 - 1) = 1 := by decide
  rw [h3] at h2
  rw [h2, wrap64_id _ (by omega) (by omega)]
  omega

theorem or_low (x y : Int) (i : Nat) (hi : i ≤ 40) (hx₀ : 0 ≤ x) (hx : x % 2 ^ i = 0) (hx₁ : x < 2 ^ 62) (hy₀ : 0 ≤ y) (hy : y < 2 ^ i) : bits .or .i64 y x = y + x := by
  have hc : bits .or .i64 y x = bits .or .i64 x y := by simp only [bits, BitVec.or_comm]
  have hp : (2 : Int) ^ i ≤ 2 ^ 40 := by exact_mod_cast Nat.pow_le_pow_right (by decide : 0 < 2) hi
  rw [hc, bits_join .i64 62 (by decide) wraps_i64 i x y hx₀ hx hx₁ hy₀ hy (by omega)]
  omega

theorem or_high (x y : Int) (hx₀ : 0 ≤ x) (hx : x % 2 = 0) (hx₁ : x < 2 ^ 62) (hy₀ : 0 ≤ y) (hy : y < 2) : bits .or .i64 x y = x + y :=
  bits_join .i64 62 (by decide) wraps_i64 1 x y hx₀ (by simpa using hx) hx₁ hy₀ (by simpa using hy) (by omega)

set_option maxHeartbeats 400000 in
theorem bit_ok (rb db : Nat) (s : RS) (d : List UInt8) (w : World) (hn : d.length ≤ 4000) (hr : Rd w rb s) (hd : Dat w db s.dv d) (hlt : s.pos < 8 * d.length) :
    Calls Tryz.prog 133 #[.pointer (some ⟨rb, 0, none⟩)] w fun e w' => e = .returned (.int .i64 (Gz.bitv d s.pos)) ∧ Rd w' rb { s with pos := s.pos + 1 } ∧ Fr (One rb) w w' := by
  have HTOP : Hid (s.pos + 1 ≤ s.top) := by have := hd.top; unfold Hid; omega
  obtain ⟨a, cap, hdv, hcs⟩ := hd
  obtain ⟨rfl, _, hc⟩ := hcs (s.pos / 8) (by omega)
  have h0 := hr.c0
  rw [hdv] at h0
  have h1 := hr.c1
  have f1 := hr.fz 2
  have HR : Hid (Rd w rb s) := hr
  have HE : Hid (Gz.bitv d s.pos = (d.getD (s.pos / 8) 0).toNat / 2 ^ (s.pos % 8) % 2) := rfl
  generalize hcc : d.getD (s.pos / 8) 0 = c at *
  have hc8 := UInt8.toNat_lt c
  clear hr hcs hcc hdv
  generalize s.pos = p at *
  generalize d.length = n at *
  go_enter Tryz.func133, Tryz.ntmps133
  go_wp2
  go_quiet (fail)
  go_wp2
  go_quiet (fail)
  go_wp2
  go_ret
  refine ⟨ret_int ?_, ?_, ?_⟩
  · rw [HE.out]; exact and_one _ _ hc8
  · exact Rd.s1 (Rd.drewN HR.out _) _ (p + 1) (by omega) HTOP.out
  · exact ((Fr.refl _ _).drewN _).setCell (fun _ => one_self rb) _

set_option maxHeartbeats 400000 in
theorem bit_short (rb db : Nat) (s : RS) (d : List UInt8) (w : World) (hn : d.length ≤ 4000) (hr : Rd w rb s) (hd : Dat w db s.dv d) (hlt : ¬ s.pos < 8 * d.length) :
    Calls Tryz.prog 133 #[.pointer (some ⟨rb, 0, none⟩)] w fun e w' => ShortP w' e ∧ Rd w' rb s ∧ Fr No w w' := by
  obtain ⟨a, cap, hdv, hcs⟩ := hd
  have h0 := hr.c0
  rw [hdv] at h0
  have h1 := hr.c1
  have f1 := hr.fz 2
  have hcp := hr.cp
  have HR : Hid (Rd w rb s) := hr
  clear hr hcs hdv
  generalize s.pos = p at *
  generalize s.ps = q at *
  generalize d.length = n at *
  have hpan : ∀ (t : TypeId) (x : Value) (w : World), (Instr.panic (.iface t x)).run Tryz.prog w = .halt (.panic (.iface t x)) w := fun _ _ _ => rfl
  go_enter Tryz.func133, Tryz.ntmps133
  go_wp2
  go_quiet (fail)
  go_wp2
  refine wp_region_any (by kernel_rfl) ?_
  change wpAny _ _ _ _ _ _ _ (World.drewN w (_ + 1))
  refine wpAny_take (i := 0) (v := ?_) rfl (by kernel_rfl) (by kernel_rfl) (by kernel_rfl) (fun _ _ _ h => h) (Or.inl ⟨by rfl, by intro w; go_simp; with_reducible rfl⟩) ?_
  refine wpAny_take (i := 1) (v := ?_) rfl (by kernel_rfl) (by kernel_rfl) (by kernel_rfl) (fun _ _ _ h => h) (Or.inl ⟨by rfl, by intro w; go_simp; with_reducible rfl⟩) ?_
  refine wpAny_take (i := 2) (v := ?_) rfl (by kernel_rfl) (by kernel_rfl) (by kernel_rfl) (fun _ _ _ h => h) (Or.inl ⟨by rfl, by intro w; go_simp; with_reducible rfl⟩) ?_
  refine wpAny_take (i := 4) (v := ?_) rfl (by kernel_rfl) (by kernel_rfl) (by kernel_rfl) (fun _ _ _ h => h) (Or.inl ⟨by rfl, by intro w; go_simp; with_reducible rfl⟩) ?_
  refine wpAny_take (i := 5) (v := ?_) rfl (by kernel_rfl) (by kernel_rfl) (by kernel_rfl) (fun _ _ _ h => h) (Or.inl ⟨by rfl, by intro w; go_simp; with_reducible rfl⟩) ?_
  refine wpAny_take (i := 6) (v := ?_) rfl (by kernel_rfl) (by kernel_rfl) (by kernel_rfl) (fun _ _ _ h => h) (Or.inl ⟨by rfl, by intro w; go_simp; with_reducible rfl⟩) ?_
  refine wpAny_ready (rs := [3, 7]) (by kernel_rfl) (by simp) ?_
  refine AllReady.cons rfl (fun K hK => ?_) ?_
  · go_simp
    refine hK _ _ ?_
    clear hK K
    refine wpAny_ready (rs := [7]) (by kernel_rfl) (by simp) ?_
    refine AllReady.cons rfl (fun K hK => ?_) AllReady.nil
    go_simp
    refine hK _ _ ?_
    clear hK K
    refine wpAny_ready (rs := [8]) (by kernel_rfl) (by simp) ?_
    refine AllReady.cons rfl (fun K hK => ?_) AllReady.nil
    go_simp
    refine hK _ _ ?_
    clear hK K
    refine wpAny_ready (rs := [9]) (by kernel_rfl) (by simp) ?_
    refine AllReady.cons rfl (fun K hK => ?_) AllReady.nil
    go_simp
    refine hK _ _ ?_
    clear hK K
    refine wpAny_ready (rs := [10]) (by kernel_rfl) (by simp) ?_
    refine AllReady.cons rfl (fun K hK => ?_) AllReady.nil
    go_simp
    refine hK _ _ ?_
    clear hK K
    refine wpAny_ready (rs := [11]) (by kernel_rfl) (by simp) ?_
    refine AllReady.cons rfl (fun K hK => ?_) AllReady.nil
    go_simp
    refine hK _ _ ?_
    clear hK K
    refine wpAny_ready (rs := [12]) (by kernel_rfl) (by simp) ?_
    refine AllReady.cons rfl (fun K hK => ?_) AllReady.nil
    go_simp
    refine hK _ _ ?_
    clear hK K
    refine wpAny_ready (rs := [13]) (by kernel_rfl) (by simp) ?_
    refine AllReady.cons rfl (fun K hK => ?_) AllReady.nil
    go_simp
    refine hK _ _ ?_
    clear hK K
    refine wpAny_ready (rs := [14]) (by kernel_rfl) (by simp) ?_
    refine AllReady.cons rfl (fun K hK => ?_) AllReady.nil
    go_simp
    exact bodyPost_panic rfl ⟨⟨w.heap.size, _, rfl, alloc_at (World.drewN w _) _⟩, Rd.alloc (Rd.drewN HR.out _) _, ((Fr.refl _ _).drewN _).alloc _⟩
  refine AllReady.cons rfl (fun K hK => ?_) AllReady.nil
  go_simp
  refine hK _ _ ?_
  clear hK K
  refine wpAny_take (i := 8) (v := ?_) rfl (by kernel_rfl) (by kernel_rfl) (by kernel_rfl) (fun _ _ _ h => h) (Or.inl ⟨by rfl, by intro w; go_simp; with_reducible rfl⟩) ?_
  refine wpAny_ready (rs := [3]) (by kernel_rfl) (by simp) ?_
  refine AllReady.cons rfl (fun K hK => ?_) AllReady.nil
  go_simp
  refine hK _ _ ?_
  clear hK K
  refine wpAny_ready (rs := [9]) (by kernel_rfl) (by simp) ?_
  refine AllReady.cons rfl (fun K hK => ?_) AllReady.nil
  go_simp
  refine hK _ _ ?_
  clear hK K
  refine wpAny_ready (rs := [10]) (by kernel_rfl) (by simp) ?_
  refine AllReady.cons rfl (fun K hK => ?_) AllReady.nil
  go_simp
  refine hK _ _ ?_
  clear hK K
  refine wpAny_ready (rs := [11]) (by kernel_rfl) (by simp) ?_
  refine AllReady.cons rfl (fun K hK => ?_) AllReady.nil
  go_simp
  refine hK _ _ ?_
  clear hK K
  refine wpAny_ready (rs := [12]) (by kernel_rfl) (by simp) ?_
  refine AllReady.cons rfl (fun K hK => ?_) AllReady.nil
  go_simp
  refine hK _ _ ?_
  clear hK K
  refine wpAny_ready (rs := [13]) (by kernel_rfl) (by simp) ?_
  refine AllReady.cons rfl (fun K hK => ?_) AllReady.nil
  go_simp
  refine hK _ _ ?_
  clear hK K
  refine wpAny_ready (rs := [14]) (by kernel_rfl) (by simp) ?_
  refine AllReady.cons rfl (fun K hK => ?_) AllReady.nil
  go_simp
  exact bodyPost_panic rfl ⟨⟨w.heap.size, _, rfl, alloc_at (World.drewN w _) _⟩, Rd.alloc (Rd.drewN HR.out _) _, ((Fr.refl _ _).drewN _).alloc _⟩

theorem val_step (d : List UInt8) (p k : Nat) (hk : k ≤ 40) : bits BinOp.or IntKind.i64 (↑(Gz.val d p k)) (wrap64 (↑(Gz.bitv d (p + k)) * 2 ^ k)) = ((Gz.val d p (k + 1) : Nat) : Int) := by
  have h1 := val_lt d p k
  have h2 := bitv_lt d (p + k)
  have hp : 2 ^ k ≤ 2 ^ 40 := Nat.pow_le_pow_right (by decide : 0 < 2) hk
  have e1 : ((2 : Int) ^ k) = ((2 ^ k : Nat) : Int) := by simp
  show _ = ((Gz.val d p k + Gz.bitv d (p + k) * 2 ^ k : Nat) : Int)
  rw [e1]
  generalize Gz.val d p k = v at *
  generalize Gz.bitv d (p + k) = b at *
  have h3 : b = 0 ∨ b = 1 := by omega
  have hz : ((b : Int) * ((2 ^ k : Nat) : Int)) % 2 ^ k = 0 := by rw [e1]; exact Int.mul_emod_left _ _
  have hb : 0 ≤ (b : Int) * ((2 ^ k : Nat) : Int) ∧ (b : Int) * ((2 ^ k : Nat) : Int) < 2 ^ 62 := by
    rcases h3 with h3 | h3 <;> subst h3 <;> simp <;> omega
  rw [wrap64_id _ hb.1 hb.2, or_low _ _ k hk hb.1 hz hb.2 (by omega) (by rw [e1]; omega)]
  simp

set_option maxHeartbeats 400000 in
theorem number_ok (rb db : Nat) (s : RS) (d : List UInt8) (n : Nat) (w : World) (hn : d.length ≤ 4000) (hne : db ≠ rb) (hr : Rd w rb s) (hd : Dat w db s.dv d) (h16 : n ≤ 16) (hlt : s.pos + n ≤ 8 * d.length) :
    Calls Tryz.prog 110 #[.pointer (some ⟨rb, 0, none⟩), .int .i64 n] w fun e w' => e = .returned (.int .i64 (Gz.val d s.pos n)) ∧ Rd w' rb { s with pos := s.pos + n } ∧ Fr (One rb) w w' := by
  go_enter Tryz.func110, Tryz.ntmps110
  go_wp2
  go_loopw [5, 8] (fun sum i wr => ∃ k : Nat, k ≤ n ∧ i = .int .i64 k ∧ sum = .int .i64 (Gz.val d s.pos k) ∧ Rd wr rb { s with pos := s.pos + k } ∧ Fr (One rb) w wr) (fun _ i _ => n - (intOf i).toNat)
  case atStart => exact ⟨0, Nat.zero_le _, rfl, rfl, hr, Fr.refl _ _⟩
  case round =>
    obtain ⟨k, hk, rfl, rfl, hrr, hfr⟩ := hrel
    by_cases hlk : k < n
    · go_wp2_with (go_at_call 133; refine (bit_ok rb db _ d _ hn hrr (hd.fr hfr hne) (by show s.pos + k < _; omega)).mono ?_; rintro e w1 ⟨rfl, hr1, hf1⟩)
      refine ⟨⟨k + 1, by omega, by go_num, congrArg _ ?_, hr1, hfr.trans hf1⟩, by simp [intOf]; omega⟩
      exact val_step d s.pos k (by omega)
    · go_wp2
      go_ret
      have : k = n := by omega
      subst this
      exact ⟨rfl, hrr, hfr⟩

set_option maxHeartbeats 400000 in
theorem number_short (rb db : Nat) (s : RS) (d : List UInt8) (n : Nat) (w : World) (hn : d.length ≤ 4000) (hne : db ≠ rb) (hr : Rd w rb s) (hd : Dat w db s.dv d) (h16 : n ≤ 16) (hn0 : 0 < n) (hlt : ¬ s.pos + n ≤ 8 * d.length) :
    Calls Tryz.prog 110 #[.pointer (some ⟨rb, 0, none⟩), .int .i64 n] w fun e w' => ShortP w' e ∧ (∃ q, Rd w' rb { s with pos := q }) ∧ Fr (One rb) w w' := by
  go_enter Tryz.func110, Tryz.ntmps110
  go_wp2
  go_loopw [5, 8] (fun sum i wr => ∃ k : Nat, k ≤ n ∧ i = .int .i64 k ∧ sum = .int .i64 (Gz.val d s.pos k) ∧ s.pos + k < s.pos + n ∧ (0 < k → s.pos + k ≤ 8 * d.length) ∧ Rd wr rb { s with pos := s.pos + k } ∧ Fr (One rb) w wr) (fun _ i _ => n - (intOf i).toNat)
  case atStart => exact ⟨0, Nat.zero_le _, rfl, rfl, by omega, by omega, hr, Fr.refl _ _⟩
  case round =>
    obtain ⟨k, hk, rfl, rfl, hkn, hk8, hrr, hfr⟩ := hrel
    have hlk : k < n := by omega
    by_cases hb : s.pos + k < 8 * d.length
    · go_wp2_with (go_at_call 133; refine (bit_ok rb db _ d _ hn hrr (hd.fr hfr hne) hb).mono ?_; rintro e w1 ⟨rfl, hr1, hf1⟩)
      refine ⟨⟨k + 1, by omega, by go_num, congrArg _ ?_, by omega, by omega, hr1, hfr.trans hf1⟩, by simp [intOf]; omega⟩
      exact val_step d s.pos k (by omega)
    · go_wp2_with (go_at_call 133; refine (bit_short rb db _ d _ hn hrr (hd.fr hfr hne) hb).mono ?_; rintro e w1 ⟨⟨p, m, rfl, hp⟩, hr1, hf1⟩)
      refine bodyPost_panic rfl ⟨⟨p, m, rfl, hp⟩, ⟨_, hr1⟩, hfr.trans hf1.of_no⟩
end Go.Proofs.YtjjjlilflbddoaaGreatDoor
