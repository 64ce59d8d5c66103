import Derived.Test.YtjjjlilflbddoaaDoorGBase
import Derived.Test.YtjjjlilflbddoaaDoorGPkC
/-
  The document's reader: its data as they lie in memory.
-/
namespace Go.Proofs.YtjjjlilflbddoaaDoor
open Go.RowKit

theorem rinfo3 : (Tryd.prog.info? 3).map (fun i => (i.zero, i.size, i.bytes)) = some (some (.int .i64 0), 1, 8) := by kernel_rfl
theorem rinfo5 : (Tryd.prog.info? 5).map (fun i => (i.zero, i.size, i.bytes)) = some (some (.int .u8 0), 1, 1) := by kernel_rfl

structure DS where
  s : ByteArray
  pos : Nat
  sh : Bool
  er : Nat
  dn : Bool
  lim : Nat
  ov : Value
  kv : Value
  nv : Value
  tv : Value

def DS.cells (s : DS) : Array Value := #[.string s.s, .int .i64 s.pos, .bool s.sh, .int .i64 s.er, .bool s.dn, .int .i64 s.lim, s.ov, s.kv, s.nv, s.tv]
def Da (w : World) (rb : Nat) (s : DS) : Prop := w.heap[rb]? = some (.cells s.cells 55 (0, 0))
/-- The bytes. -/
def DS.d (s : DS) : List UInt8 := s.s.data.toList

section
variable {w : World} {rb : Nat} {s : DS}
theorem Da.lt (h : Da w rb s) : rb < w.heap.size := lt_of h
theorem Da.c0 (h : Da w rb s) : w.cell? ⟨rb, 0, none⟩ = some (.string s.s) := by rw [cell_of h]; rfl
theorem Da.c1 (h : Da w rb s) : w.cell? ⟨rb, 1, none⟩ = some (.int .i64 s.pos) := by rw [cell_of h]; rfl
theorem Da.c2 (h : Da w rb s) : w.cell? ⟨rb, 2, none⟩ = some (.bool s.sh) := by rw [cell_of h]; rfl
theorem Da.c3 (h : Da w rb s) : w.cell? ⟨rb, 3, none⟩ = some (.int .i64 s.er) := by rw [cell_of h]; rfl
theorem Da.c4 (h : Da w rb s) : w.cell? ⟨rb, 4, none⟩ = some (.bool s.dn) := by rw [cell_of h]; rfl
theorem Da.c5 (h : Da w rb s) : w.cell? ⟨rb, 5, none⟩ = some (.int .i64 s.lim) := by rw [cell_of h]; rfl
theorem Da.c6 (h : Da w rb s) : w.cell? ⟨rb, 6, none⟩ = some s.ov := by rw [cell_of h]; rfl
theorem Da.c7 (h : Da w rb s) : w.cell? ⟨rb, 7, none⟩ = some s.kv := by rw [cell_of h]; rfl
theorem Da.c8 (h : Da w rb s) : w.cell? ⟨rb, 8, none⟩ = some s.nv := by rw [cell_of h]; rfl
theorem Da.c9 (h : Da w rb s) : w.cell? ⟨rb, 9, none⟩ = some s.tv := by rw [cell_of h]; rfl
theorem Da.fz (h : Da w rb s) (i : Nat) : w.frozen? ⟨rb, i, none⟩ = false := frozen_of h i
theorem Da.s1 (h : Da w rb s) (z : Int) (n : Nat) (e : z = n) : Da (w.setCell ⟨rb, 1, none⟩ (.int .i64 z)) rb { s with pos := n } := by subst e; unfold Da; rw [set_of h]; rfl
theorem Da.s2 (h : Da w rb s) (b : Bool) : Da (w.setCell ⟨rb, 2, none⟩ (.bool b)) rb { s with sh := b } := by unfold Da; rw [set_of h]; rfl
theorem Da.s3 (h : Da w rb s) (z : Int) (n : Nat) (e : z = n) : Da (w.setCell ⟨rb, 3, none⟩ (.int .i64 z)) rb { s with er := n } := by subst e; unfold Da; rw [set_of h]; rfl
theorem Da.s4 (h : Da w rb s) (b : Bool) : Da (w.setCell ⟨rb, 4, none⟩ (.bool b)) rb { s with dn := b } := by unfold Da; rw [set_of h]; rfl
theorem Da.s6 (h : Da w rb s) (v : Value) : Da (w.setCell ⟨rb, 6, none⟩ v) rb { s with ov := v } := by unfold Da; rw [set_of h]; rfl
theorem Da.s7 (h : Da w rb s) (v : Value) : Da (w.setCell ⟨rb, 7, none⟩ v) rb { s with kv := v } := by unfold Da; rw [set_of h]; rfl
theorem Da.s8 (h : Da w rb s) (v : Value) : Da (w.setCell ⟨rb, 8, none⟩ v) rb { s with nv := v } := by unfold Da; rw [set_of h]; rfl
theorem Da.s9 (h : Da w rb s) (v : Value) : Da (w.setCell ⟨rb, 9, none⟩ v) rb { s with tv := v } := by unfold Da; rw [set_of h]; rfl
theorem Da.drewN (h : Da w rb s) (q : Nat) : Da (w.drewN q) rb s := h
theorem Da.alloc (h : Da w rb s) (o : Obj) : Da (w.alloc o) rb s := alloc_old h
theorem Da.fr {S : Nat → Prop} {w' : World} (h : Da w rb s) (f : Fr S w w') (hs : ¬ S rb) : Da w' rb s := f.at h hs
end
theorem one_set (rb i : Nat) (w : World) (v : Value) : Fr (One rb) w (w.setCell ⟨rb, i, none⟩ v) := (Fr.refl _ _).setCell (fun _ => one_self rb) _

/-- Both flags at once: may it go on? -/
def DS.good (s : DS) : Bool := !s.sh && s.er == 0

set_option maxHeartbeats 400000 in
theorem rok_any (rb : Nat) (s : DS) (w : World) (hr : Da w rb s) :
    Calls Tryd.prog 42 #[.pointer (some ⟨rb, 0, none⟩)] w fun e w' => e = .returned (.bool s.good) ∧ w' = w := by
  have h2 := hr.c2
  have h3 := hr.c3
  unfold DS.good
  cases hs : s.sh with
  | true =>
    rw [hs] at h2
    go_enter Tryd.func42, Tryd.ntmps42
    go_wp2
    go_ret
    exact ⟨rfl, rfl⟩
  | false =>
    rw [hs] at h2
    go_enter Tryd.func42, Tryd.ntmps42
    go_wp2
    go_ret
    refine ⟨ret_one (congrArg Value.bool ?_), rfl⟩
    rw [Bool.eq_iff_iff]; simp

theorem str_size (s : DS) : s.d.length = s.s.size := by simp [DS.d]

set_option maxHeartbeats 400000 in
theorem rbit_no (rb : Nat) (s : DS) (d : List UInt8) (w : World) (hr : Da w rb s) (hd : s.d = d) (hn : d.length ≤ 4000) (h : s.sh = true ∨ 8 * d.length ≤ s.pos) :
    Calls Tryd.prog 63 #[.pointer (some ⟨rb, 0, none⟩)] w fun e w' => e = .returned (.int .i64 0) ∧ Da w' rb { s with sh := true } ∧ Fr (One rb) w w' := by
  have h0 := hr.c0
  have h1 := hr.c1
  have h2 := hr.c2
  have f2 := hr.fz 2
  rw [← hd, str_size] at h hn
  have HR := hide hr
  by_cases hs : s.sh = true
  · rw [hs] at h2
    clear hr h
    go_enter Tryd.func63, Tryd.ntmps63
    go_wp2
    go_quiet (fail)
    go_wp2
    go_ret
    exact ⟨rfl, (HR.out.drewN _).s2 true, ((Fr.refl _ _).drewN _).setCell (fun _ => one_self rb) _⟩
  · have h : 8 * s.s.size ≤ s.pos := by rcases h with h | h; exact absurd h hs; exact h
    have hs : s.sh = false := by simpa using hs
    rw [hs] at h2
    clear hr
    go_enter Tryd.func63, Tryd.ntmps63
    go_wp2
    go_quiet (fail)
    go_wp2
    go_ret
    exact ⟨rfl, (HR.out.drewN _).s2 true, ((Fr.refl _ _).drewN _).setCell (fun _ => one_self rb) _⟩
end Go.Proofs.YtjjjlilflbddoaaDoor
namespace Go.Proofs.YtjjjlilflbddoaaDoor
open Go.RowKit

theorem byte_at (s : DS) (i : Nat) (h : i < s.d.length) (w : World) : (Instr.index 9 (.string s.s) (.int .i64 (i : Int))).run Tryd.prog w = .ok (.int .u8 (s.d.getD i 0).toNat) w := by
  have h' : i < s.s.size := by rw [← str_size]; exact h
  rw [run_index_string w 9 s.s .i64 i Tryd.underlying9, dif_pos (by omega)]
  have e : s.s[i] = s.d.getD i 0 := by
    unfold DS.d at *
    rw [List.getD_eq_getElem?_getD, List.getElem?_eq_getElem h]
    rfl
  simp only [Int.toNat_natCast, e]

theorem half_step (c k : Nat) : ((c / 2 ^ k : Nat) : Int) / 2 = ((c / 2 ^ (k + 1) : Nat) : Int) := by
  rw [Nat.pow_succ, ← Nat.div_div_eq_div_mul]; omega

set_option maxHeartbeats 800000 in
theorem rbit_ok (rb : Nat) (s : DS) (d : List UInt8) (w : World) (hr : Da w rb s) (hd : s.d = d) (hn : d.length ≤ 4000) (hs : s.sh = false) (h : s.pos < 8 * d.length) :
    Calls Tryd.prog 63 #[.pointer (some ⟨rb, 0, none⟩)] w fun e w' => e = .returned (.int .i64 (Gz.bitv d s.pos)) ∧ Da w' rb { s with pos := s.pos + 1 } ∧ Fr (One rb) w w' := by
  have h0 := hr.c0
  have h1 := hr.c1
  have h2 := hr.c2
  have f1 := hr.fz 1
  subst hd
  have hix := fun w => byte_at s (s.pos / 8) (by omega) w
  rw [show ((s.pos / 8 : Nat) : Int) = (s.pos : Int) / 8 by omega] at hix
  rw [str_size] at h hn
  rw [hs] at h2
  clear hs
  have HR := hide hr
  have HE : Hid (Gz.bitv s.d s.pos = (s.d.getD (s.pos / 8) 0).toNat / 2 ^ (s.pos % 8) % 2) := rfl
  have hc8 := UInt8.toNat_lt (s.d.getD (s.pos / 8) 0)
  generalize (s.d.getD (s.pos / 8) 0).toNat = c at *
  clear hr
  go_enter Tryd.func63, Tryd.ntmps63
  go_wp2
  go_quiet (fail)
  go_wp2
  go_quiet (fail)
  go_wp2
  go_loop [3, 4] (fun b i => ∃ k : Nat, k ≤ s.pos % 8 ∧ i = .int .i64 k ∧ b = .int .i64 ((c / 2 ^ k : Nat) : Int)) (fun _ i => 8 - (intOf i).toNat)
  case atStart => exact ⟨0, Nat.zero_le _, rfl, by simp⟩
  case round =>
    obtain ⟨k, hk, rfl, rfl⟩ := hrel
    have hle : c / 2 ^ k ≤ c := Nat.div_le_self _ _
    by_cases hlt : k < s.pos % 8
    · have HH := hide (half_step c k)
      generalize c / 2 ^ k = x at *
      go_wp2
      go_round
      case rel => refine ⟨k + 1, by omega, by go_num, ?_⟩; have := HH.out; push_cast at this; first | exact this | exact congrArg _ this | exact congrArg _ HH.out
      case measure => simp [intOf]; omega
    · have hke : k = s.pos % 8 := by omega
      have HX : Hid (c / 2 ^ (s.pos % 8) = c / 2 ^ k) := by rw [← hke]; exact rfl
      generalize c / 2 ^ k = x at *
      rw [HX.out] at HE
      clear HX
      go_wp2
      go_ret
      refine ⟨ret_int ?_, ?_, ((Fr.refl _ _).drewN _).setCell (fun _ => one_self rb) _⟩
      · rw [HE.out]; omega
      · exact Da.s1 (Da.drewN HR.out _) ((s.pos : Int) + 1) (s.pos + 1) (by omega)

theorem pow_step (k y : Nat) (h : y = 2 ^ k) : 2 * y = 2 ^ (k + 1) := by rw [Nat.pow_succ, h]; omega
theorem val_snoc (d : List UInt8) (p k y : Nat) (h : y = 2 ^ k) : Gz.val d p k + Gz.bitv d (p + k) * y = Gz.val d p (k + 1) := by subst h; rfl

set_option maxHeartbeats 800000 in
theorem rnum_ok (rb n : Nat) (s : DS) (d : List UInt8) (w : World) (hr : Da w rb s) (hd : s.d = d) (hn : d.length ≤ 4000) (hs : s.sh = false) (h16 : n ≤ 16) (h : s.pos + n ≤ 8 * d.length) :
    Calls Tryd.prog 64 #[.pointer (some ⟨rb, 0, none⟩), .int .i64 n] w fun e w' => e = .returned (.int .i64 (Gz.val d s.pos n)) ∧ Da w' rb { s with pos := s.pos + n } ∧ Fr (One rb) w w' := by
  go_enter Tryd.func64, Tryd.ntmps64
  go_wp2
  go_loopw [5, 6, 7] (fun v x i wr => ∃ k y : Nat, k ≤ n ∧ i = .int .i64 k ∧ v = .int .i64 (Gz.val d s.pos k) ∧ x = .int .i64 (y : Nat) ∧ Hid (y = 2 ^ k) ∧ Da wr rb { s with pos := s.pos + k } ∧ Fr (One rb) w wr) (fun _ _ i _ => n - (intOf i).toNat)
  case atStart => exact ⟨0, 1, Nat.zero_le _, rfl, rfl, rfl, rfl, hr, Fr.refl _ _⟩
  case round =>
    obtain ⟨k, y, hk, rfl, rfl, rfl, hy, hrr, hfr⟩ := hrel
    have h2k : y ≤ 65536 := by rw [hy.out]; exact Nat.pow_le_pow_right (n := 2) (by decide) (show k ≤ 16 by omega)
    have hvk : Gz.val d s.pos k < y := by rw [hy.out]; exact val_lt d s.pos k
    by_cases hlk : k < n
    · have hb := bitv_lt d (s.pos + k)
      have HV := hide (val_snoc d s.pos k y hy.out)
      obtain ⟨m, hm⟩ : ∃ m, m = Gz.bitv d (s.pos + k) * y := ⟨_, rfl⟩
      have hml : m ≤ y := by
        have : Gz.bitv d (s.pos + k) = 0 ∨ Gz.bitv d (s.pos + k) = 1 := by omega
        rcases this with e | e <;> rw [hm, e] <;> omega
      have hmul : (Gz.bitv d (s.pos + k) : Int) * (y : Int) = (m : Nat) := by rw [hm]; push_cast; rfl
      rw [← hm] at HV
      clear hm
      go_wp2_with (go_at_call 63; refine (rbit_ok rb _ d _ hrr hd hn hs (by show s.pos + k < 8 * d.length; omega)).mono ?_; rintro e w1 ⟨rfl, hr1, hf1⟩)
      refine ⟨⟨k + 1, 2 * y, by omega, by go_num, ?_, by go_num, pow_step k y hy.out, hr1, hfr.trans hf1⟩, by simp [intOf]; omega⟩
      rw [← HV.out]
      first | go_num | (push_cast; rfl)
    · go_wp2
      go_ret
      have : k = n := by omega
      subst this
      exact ⟨rfl, hrr, hfr⟩

set_option maxHeartbeats 800000 in
/-- The bits do not suffice: some number, and the flag is set. -/
theorem rnum_no (rb n : Nat) (s : DS) (d : List UInt8) (w : World) (hr : Da w rb s) (hd : s.d = d) (hn : d.length ≤ 4000) (h0 : 0 < n) (h16 : n ≤ 16) (h : s.sh = true ∨ 8 * d.length < s.pos + n) :
    Calls Tryd.prog 64 #[.pointer (some ⟨rb, 0, none⟩), .int .i64 n] w fun e w' => (∃ v : Nat, v < 65536 ∧ e = .returned (.int .i64 v)) ∧ (∃ q, q ≤ s.pos + n ∧ Da w' rb { s with pos := q, sh := true }) ∧ Fr (One rb) w w' := by
  go_enter Tryd.func64, Tryd.ntmps64
  go_wp2
  go_loopw [5, 6, 7] (fun v x i wr => ∃ (k v' q y : Nat) (b : Bool), k ≤ n ∧ i = .int .i64 k ∧ v = .int .i64 v' ∧ v' < y ∧ x = .int .i64 (y : Nat) ∧ Hid (y = 2 ^ k) ∧ q ≤ s.pos + k ∧ Hid (b = false → q = s.pos + k ∧ s.sh = false ∧ (k = 0 ∨ q ≤ 8 * d.length)) ∧ Da wr rb { s with pos := q, sh := b } ∧ Fr (One rb) w wr) (fun _ _ i _ => n - (intOf i).toNat)
  case atStart => exact ⟨0, 0, s.pos, 1, s.sh, Nat.zero_le _, rfl, rfl, by omega, rfl, rfl, by omega, fun h => ⟨rfl, h, Or.inl rfl⟩, hr, Fr.refl _ _⟩
  case round =>
    obtain ⟨k, v', q, y, b, hk, rfl, rfl, hv, rfl, hy, hqk, hbq, hrr, hfr⟩ := hrel
    have h2k : y ≤ 65536 := by rw [hy.out]; exact Nat.pow_le_pow_right (n := 2) (by decide) (show k ≤ 16 by omega)
    have HH := hide h
    clear h
    by_cases hlk : k < n
    · by_cases hok : b = false ∧ q < 8 * d.length
      · obtain ⟨rfl, hql⟩ := hok
        have hbc := hbq.out rfl
        have hb := bitv_lt d q
        obtain ⟨m, hm⟩ : ∃ m, m = Gz.bitv d q * y := ⟨_, rfl⟩
        have hml : m ≤ y := by
          have : Gz.bitv d q = 0 ∨ Gz.bitv d q = 1 := by omega
          rcases this with e | e <;> rw [hm, e] <;> omega
        have hmul : (Gz.bitv d q : Int) * (y : Int) = (m : Nat) := by rw [hm]; push_cast; rfl
        clear hm
        have HB := hide hbc
        clear hbc
        go_wp2_with (go_at_call 63; refine (rbit_ok rb _ d _ hrr hd hn rfl (by show q < 8 * d.length; exact hql)).mono ?_; rintro e w1 ⟨rfl, hr1, hf1⟩)
        exact ⟨⟨k + 1, v' + m, q + 1, 2 * y, false, by omega, by go_num, by go_num, by omega, by go_num, pow_step k y hy.out, by omega, fun _ => ⟨by have := HB.out.1; omega, HB.out.2.1, Or.inr (by omega)⟩, hr1, hfr.trans hf1⟩, by simp [intOf]; omega⟩
      · have hno : b = true ∨ 8 * d.length ≤ q := by
          cases b with
          | true => exact Or.inl rfl
          | false => exact Or.inr (Nat.le_of_not_lt (fun h => hok ⟨rfl, h⟩))
        have HNO := hide hno
        clear hno hok hbq
        go_wp2_with (go_at_call 63; refine (rbit_no rb _ d _ hrr hd hn HNO.out).mono ?_; rintro e w1 ⟨rfl, hr1, hf1⟩)
        exact ⟨⟨k + 1, v', q, 2 * y, true, by omega, by go_num, by go_num, by omega, by go_num, pow_step k y hy.out, by omega, fun e => by simp at e, hr1, hfr.trans hf1⟩, by simp [intOf]; omega⟩
    · have hkn : k = n := by omega
      subst hkn
      have hbt : b = true := by
        cases b with
        | true => rfl
        | false =>
          obtain ⟨h1, h2, h3⟩ := hbq.out rfl
          rcases HH.out with h | h
          · rw [h2] at h; exact h
          · exfalso; omega
      subst hbt
      have hv2 : v' < 65536 := by omega
      clear hbq
      go_wp2
      go_ret
      exact ⟨⟨v', hv2, rfl⟩, ⟨q, hqk, hrr⟩, hfr⟩
end Go.Proofs.YtjjjlilflbddoaaDoor
namespace Go.Proofs.YtjjjlilflbddoaaDoor
open Go.RowKit

/-- A slice of numbers that lie in block b. -/
def Ins (w : World) (b : Nat) (v : Value) (l : List Nat) : Prop :=
  ∃ a off cap, v = .slice a l.length cap ∧ ∀ i, i < l.length → a = some ⟨b, off, none⟩ ∧ b < w.heap.size ∧ w.cell? ⟨b, off + i, none⟩ = some (.int .i64 (l.getD i 0 : Nat))
theorem Ins.fr {S : Nat → Prop} {w w' : World} {b : Nat} {v : Value} {l : List Nat} (h : Ins w b v l) (f : Fr S w w') (hs : ¬ S b) : Ins w' b v l := by
  obtain ⟨a, off, cap, rfl, hc⟩ := h
  refine ⟨a, off, cap, rfl, fun i hi => ?_⟩
  obtain ⟨h1, h2, h3⟩ := hc i hi
  exact ⟨h1, Nat.lt_of_lt_of_le h2 f.size, (f.cell (p := ⟨b, off + i, none⟩) h2 hs).trans h3⟩

theorem rpower_any (n : Nat) (w : World) (h : n ≤ 40) : Calls Tryd.prog 49 #[.int .i64 n] w fun e w' => e = .returned (.int .i64 ((2 ^ n : Nat) : Int)) ∧ w' = w := by
  go_enter Tryd.func49, Tryd.ntmps49
  go_wp2
  go_loop [3, 4] (fun v i => ∃ k y : Nat, k ≤ n ∧ i = .int .i64 k ∧ v = .int .i64 (y : Nat) ∧ Hid (y = 2 ^ k)) (fun _ i => n - (intOf i).toNat)
  case atStart => exact ⟨0, 1, Nat.zero_le _, rfl, rfl, rfl⟩
  case round =>
    obtain ⟨k, y, hk, rfl, rfl, hy⟩ := hrel
    have h2k : y ≤ 2 ^ 40 := by rw [hy.out]; exact Nat.pow_le_pow_right (n := 2) (by decide) (show k ≤ 40 by omega)
    by_cases hlt : k < n
    · go_wp2
      go_round
      case rel => exact ⟨k + 1, 2 * y, by omega, by go_num, by go_num, pow_step k y hy.out⟩
      case measure => simp [intOf]; omega
    · go_wp2
      go_ret
      have : k = n := by omega
      subst this
      exact ⟨ret_int (by rw [hy.out]; push_cast; rfl), rfl⟩

theorem pow_share (n : Nat) (h0 : 0 < n) (h : n ≤ 15) : shareOf n = 2 ^ (15 - n) := by
  unfold shareOf
  rw [if_pos h0]
  exact Nat.div_eq_of_eq_mul_left (Nat.pow_pos (by decide)) (by rw [← Nat.pow_add]; rw [show 15 - n + n = 15 by omega])

set_option maxHeartbeats 800000 in
theorem rshare_any (b : Nat) (v : Value) (l : List Nat) (w : World) (hb : Ins w b v l) (hl : Lens l) (hn : l.length ≤ 400) :
    Calls Tryd.prog 48 #[v] w fun e w' => e = .returned (.int .i64 (Gz.share l : Nat)) ∧ w' = w := by
  obtain ⟨a, off, cap, rfl, hc⟩ := hb
  go_enter Tryd.func48, Tryd.ntmps48
  go_wp2
  go_loop [3, 4] (fun sm i => ∃ k : Nat, k ≤ l.length ∧ i = .int .i64 k ∧ sm = .int .i64 (Gz.share (l.take k) : Nat)) (fun _ i => l.length - (intOf i).toNat)
  case atStart => exact ⟨0, Nat.zero_le _, rfl, rfl⟩
  case round =>
    obtain ⟨k, hk, rfl, rfl⟩ := hrel
    by_cases hlt : k < l.length
    · obtain ⟨rfl, hbl, hcc⟩ := hc k hlt
      have h15 := hl k hlt
      have hsl := share_le l k
      have HS : Hid (Gz.share (l.take (k + 1)) = Gz.share (l.take k) + shareOf (l.getD k 0)) := share_take l k hlt
      generalize l.getD k 0 = n at *
      generalize hm : l.length = m at *
      generalize Gz.share (l.take k) = sk at *
      have HPS := hide (pow_share n)
      have hso := shareOf_le n
      by_cases hn0 : 0 < n
      · have hps := HPS.out hn0 h15
        have hp := fun w => rpower_any (15 - n) w (by omega)
        rw [← hps] at hp
        generalize shareOf n = z at *
        clear hps HPS
        have ez : (((15 - n : Nat) : Nat) : Int) = 15 - (n : Int) := by omega
        rw [ez] at hp
        have HPP := hide hp
        clear hp
        go_wp2_with (go_at_call 49; refine (HPP.out _).mono ?_; rintro e w1 ⟨rfl, rfl⟩)
        go_round
        case rel => exact ⟨k + 1, by omega, by go_num, by rw [HS.out]; go_num⟩
        case measure => simp [intOf]; omega
      · have hz : shareOf n = 0 := by unfold shareOf; rw [if_neg hn0]
        rw [hz] at HS
        clear hz HPS hso
        go_wp2
        go_round
        case rel => exact ⟨k + 1, by omega, by go_num, by rw [HS.out]; simp⟩
        case measure => simp [intOf]; omega
    · go_wp2
      go_ret
      exact ⟨ret_int (by rw [List.take_of_length_le (by omega)]), rfl⟩

theorem rcomplete_any (b : Nat) (v : Value) (l : List Nat) (w : World) (hb : Ins w b v l) (hl : Lens l) (hn : l.length ≤ 400) :
    Calls Tryd.prog 47 #[v] w fun e w' => e = .returned (.bool (Gz.complete l)) ∧ w' = w := by
  have hs := rshare_any b v l w hb hl hn
  have hp := rpower_any 15 w (by omega)
  go_enter Tryd.func47, Tryd.ntmps47
  go_wp2_with fail
  refine hs.mono ?_
  rintro e w1 ⟨rfl, rfl⟩
  go_wp2_with fail
  refine hp.mono ?_
  rintro e w2 ⟨rfl, rfl⟩
  go_wp2
  go_ret
  refine ⟨ret_one (congrArg Value.bool ?_), rfl⟩
  unfold Gz.complete
  generalize Gz.share l = x
  rw [Bool.eq_iff_iff]; simp; omega
end Go.Proofs.YtjjjlilflbddoaaDoor
namespace Go.Proofs.YtjjjlilflbddoaaDoor
open Go.RowKit

theorem fst_le (c : List Nat) (hc : ∀ n, c.getD n 0 ≤ 400) : ∀ n, fst c n + 400 ≤ 400 * 2 ^ n
  | 0 => by simp [fst]
  | n + 1 => by
    have h1 := fst_le c hc n
    have h2 := hc n
    have h3 : 2 ^ (n + 1) = 2 * 2 ^ n := by rw [Nat.pow_succ]; omega
    simp only [fst]
    omega

theorem counts_le (l : List Nat) (hl : Lens l) (hn : l.length ≤ 400) (n : Nat) : (Gz.counts l).getD n 0 ≤ 400 := by
  have h1 := counts_sum l hl l.length (Nat.le_refl _)
  rw [List.take_length] at h1
  have h2 := getD_le_sum (Gz.counts l) n
  omega
theorem fst_max (l : List Nat) (hl : Lens l) (hn : l.length ≤ 400) (n : Nat) (h : n ≤ 16) : fst (Gz.counts l) n ≤ 26214400 := by
  have h1 := fst_le _ (counts_le l hl hn) n
  have h2 : 2 ^ n ≤ 2 ^ 16 := Nat.pow_le_pow_right (by decide) h
  omega

/-- The codes, as far as they are laid. -/
def part (l : List Nat) (n i : Nat) : List Nat := (List.range l.length).map fun j => if 0 < l.getD j 0 ∧ (l.getD j 0 < n ∨ (l.getD j 0 = n ∧ j < i)) then (codes l).getD j 0 else 0
theorem part_len (l : List Nat) (n i : Nat) : (part l n i).length = l.length := by simp [part]
theorem part_get (l : List Nat) (n i j : Nat) (h : j < l.length) : (part l n i)[j]'(by rw [part_len]; exact h) = if 0 < l.getD j 0 ∧ (l.getD j 0 < n ∨ (l.getD j 0 = n ∧ j < i)) then (codes l).getD j 0 else 0 := by
  simp [part]
theorem part_start (l : List Nat) : part l 1 0 = List.replicate l.length 0 := by
  apply List.ext_getElem
  · simp [part]
  · intro j h1 h2
    rw [part_get l 1 0 j (by simpa [part] using h1), List.getElem_replicate, if_neg (by omega)]
theorem part_next (l : List Nat) (n : Nat) : part l n l.length = part l (n + 1) 0 := by
  apply List.ext_getElem
  · simp [part]
  · intro j h1 h2
    have hj : j < l.length := by simpa [part] using h1
    rw [part_get l n _ j hj, part_get l (n + 1) 0 j hj]
    congr 1
    apply propext
    omega
theorem part_end (l : List Nat) (hl : Lens l) : part l 16 0 = codes l := by
  apply List.ext_getElem
  · simp [part, codes]
  · intro j h1 h2
    have hj : j < l.length := by simpa [part] using h1
    rw [part_get l 16 0 j hj]
    have h15 := hl j hj
    have e : (codes l)[j] = (codes l).getD j 0 := by simp [List.getD, h2]
    rw [e]
    by_cases h0 : 0 < l.getD j 0
    · rw [if_pos ⟨h0, by omega⟩]
    · rw [if_neg (by omega), codes_get l j hj, if_neg h0]
theorem part_same (l : List Nat) (n i : Nat) (e : l.getD i 0 ≠ n) : part l n (i + 1) = part l n i := by
  apply List.ext_getElem
  · simp [part]
  · intro j h1 h2
    have hj : j < l.length := by simpa [part] using h1
    rw [part_get l n _ j hj, part_get l n i j hj]
    congr 1
    apply propext
    constructor
    · rintro ⟨a, b | ⟨b, c⟩⟩
      · exact ⟨a, Or.inl b⟩
      · refine ⟨a, Or.inr ⟨b, ?_⟩⟩
        have : j ≠ i := fun h => e (h ▸ b)
        omega
    · rintro ⟨a, b | ⟨b, c⟩⟩
      · exact ⟨a, Or.inl b⟩
      · exact ⟨a, Or.inr ⟨b, by omega⟩⟩
theorem part_set (l : List Nat) (n i : Nat) (hi : i < l.length) (h0 : 0 < n) (e : l.getD i 0 = n) : (part l n i).set i (2 * fst (Gz.counts l) n + rk l i n) = part l n (i + 1) := by
  apply List.ext_getElem
  · simp [part]
  · intro j h1 h2
    have hj : j < l.length := by simpa [part] using h2
    rw [List.getElem_set, part_get l n (i + 1) j hj]
    by_cases hij : i = j
    · subst hij
      rw [if_pos rfl, if_pos ⟨by omega, Or.inr ⟨e, by omega⟩⟩, codes_get l i hi, if_pos (by omega), e]
    · rw [if_neg hij, part_get l n i j hj]
      congr 1
      apply propext
      constructor
      · rintro ⟨a, b | ⟨b, c⟩⟩
        · exact ⟨a, Or.inl b⟩
        · exact ⟨a, Or.inr ⟨b, by omega⟩⟩
      · rintro ⟨a, b | ⟨b, c⟩⟩
        · exact ⟨a, Or.inl b⟩
        · exact ⟨a, Or.inr ⟨b, by omega⟩⟩

set_option maxRecDepth 100000 in
set_option maxHeartbeats 1600000 in
theorem rcodes_any (b : Nat) (v : Value) (l : List Nat) (w : World) (hb : Ins w b v l) (hl : Lens l) (hn : l.length ≤ 400) (h0 : 0 < l.length) :
    Calls Tryd.prog 98 #[v] w fun e w' => e = .returned (.slice (some ⟨w.heap.size, 0, none⟩) l.length l.length) ∧ w'.heap[w.heap.size]? = some (.cells (ivs (codes l)) 3 (0, 0)) ∧ Fr No w w' := by
  obtain ⟨a, off, cap, rfl, hc⟩ := hb
  obtain ⟨rfl, hbl, _⟩ := hc 0 h0
  have hmk := run_make_row' (P := Tryd.prog) 30 3 (.int .i64 0) 8 Tryd.underlying30 rinfo3 rfl .i64 .i64 l.length (by omega) (by omega)
  go_enter Tryd.func98, Tryd.ntmps98
  go_wp2
  clear hmk
  go_loopw [4, 5, 6] (fun vc vn _vi wr => ∃ n : Nat, 1 ≤ n ∧ n ≤ 16 ∧ vn = .int .i64 n ∧ vc = .int .i64 (fst (Gz.counts l) n : Nat) ∧ wr.heap[w.heap.size]? = some (.cells (ivs (part l n 0)) 3 (0, 0)) ∧ Fr No w wr) (fun _ n _ _ => 16 - (intOf n).toNat)
  case atStart =>
    refine ⟨1, by omega, by omega, rfl, ?_, ?_, (Fr.refl _ _).alloc _⟩
    · rw [show fst (Gz.counts l) 1 = 2 * 0 + (Gz.counts l).getD 0 0 from rfl, counts_nil]; rfl
    · have e1 := alloc_at w (.cells (madeCells #[.int .i64 0] l.length) 3)
      rw [e1, made_zero, part_start]
  case round =>
    obtain ⟨n, h1, h16, rfl, rfl, hh, hfr⟩ := hrel
    have hfm := fst_max l hl hn n h16
    have HH := hide hh
    clear hh
    by_cases hlt : n ≤ 15
    · go_wp2
      go_loopw [4, 6] (fun vc vi w2 => ∃ i : Nat, i ≤ l.length ∧ vi = .int .i64 i ∧ vc = .int .i64 (2 * fst (Gz.counts l) n + rk l i n : Nat) ∧ w2.heap[w.heap.size]? = some (.cells (ivs (part l n i)) 3 (0, 0)) ∧ Fr No w w2) (fun _ i _ => l.length - (intOf i).toNat)
      case atStart => exact ⟨0, Nat.zero_le _, rfl, by rw [rk_zero]; go_num, HH.out, hfr⟩
      case round =>
        obtain ⟨i, hi, rfl, rfl, hh2, hf2⟩ := hrel
        have hrm := rk_mono l hl n i l.length hi (Nat.le_refl _)
        rw [rk_all] at hrm
        have hcl := counts_le l hl hn n
        by_cases hil : i < l.length
        · obtain ⟨_, _, hcc⟩ := hc i hil
          have hcc := (hf2.cell (p := ⟨b, off + i, none⟩) hbl (no_no _)).trans hcc
          have hne : w.heap.size ≠ b := by omega
          have hfz := frozen_of hh2 i
          have hce : wr.cell? ⟨w.heap.size, i, none⟩ = some (.int .i64 ((part l n i).getD i 0 : Nat)) := by rw [cell_of hh2]; exact ivs_get (by rw [part_len]; exact hil)
          have HR := hide (rk_succ l hl i n hil (by omega))
          have hset : Hid (l.getD i 0 = n → (wr.setCell ⟨w.heap.size, i, none⟩ (.int .i64 ((2 * fst (Gz.counts l) n + rk l i n : Nat) : Int))).heap[w.heap.size]? = some (.cells (ivs (part l n (i + 1))) 3 (0, 0))) := by
            intro e
            rw [set_of hh2, ivs_set, part_set l n i hil (by omega) e]
          have HSM := hide (part_same l n i)
          have HH2 := hide hh2
          clear hh2
          have h15 := hl i hil
          generalize l.getD i 0 = x at *
          generalize fst (Gz.counts l) n = fc at *
          generalize rk l i n = r at *
          by_cases hx : x = n
          · subst hx
            go_wp2
            refine ⟨⟨i + 1, by omega, by go_num, ?_, ?_, hf2.setCell (fun e => absurd e (Nat.lt_irrefl _)) _⟩, by simp [intOf]; omega⟩
            · rw [HR.out, if_pos rfl]; go_num
            · have := hset.out rfl
              push_cast at this
              exact this
          · have hx' : ((x : Int) == (n : Int)) = false := by rw [beq_eq_false_iff_ne]; omega
            go_wp2
            refine ⟨⟨i + 1, by omega, by go_num, ?_, ?_, hf2⟩, by simp [intOf]; omega⟩
            · rw [HR.out, if_neg hx]; go_num
            · rw [HSM.out hx]; exact HH2.out
        · have hie : i = l.length := by omega
          subst hie
          have HH2 := hide hh2
          clear hh2
          go_wp2
          refine ⟨⟨n + 1, by omega, by omega, by go_num, ?_, ?_, hf2⟩, by simp [intOf]; omega⟩
          · rw [rk_all]; go_num
          · rw [← part_next]; exact HH2.out
    · have hne : n = 16 := by omega
      subst hne
      go_wp2
      go_ret
      refine ⟨rfl, ?_, hfr⟩
      rw [← part_end l hl]; exact HH.out
end Go.Proofs.YtjjjlilflbddoaaDoor
