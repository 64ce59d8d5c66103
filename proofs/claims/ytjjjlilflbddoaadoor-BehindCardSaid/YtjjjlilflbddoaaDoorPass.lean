import Derived.Test.YtjjjlilflbddoaaDoorLive
import Derived.Shelf.SlicesE.Delete
/-
  The bytes that were taken whole are let go: slices.Delete, and pass.
-/
namespace Go.Proofs
open Go.Shelf
def Tryd.laysDel_ren : Go.Shelf.Ren := ⟨fun | 45 => 75 | x => x, fun | 0 => 0 | 3 => 3 | 4 => 4 | 22 => 51 | 23 => 5 | x => x, fun x => x⟩
theorem Tryd.laysDel : SlLaysE.n45 Tryd.prog Tryd.laysDel_ren := {
  mixed := by kernel_rfl
  f45 := ⟨"slices.Delete[[]byte,byte]", rfl, Tryd.func75.trans (congrArg some (by kernel_rfl))⟩
  t0 := Tryd.underlying0
  a0 := Tryd.isAgg0
  z0 := Tryd.sizeOf0
  v0 := Tryd.zeroValue0
  t3 := Tryd.underlying3
  a3 := Tryd.isAgg3
  z3 := Tryd.sizeOf3
  v3 := Tryd.zeroValue3
  t4 := Tryd.underlying4
  a4 := Tryd.isAgg4
  z4 := Tryd.sizeOf4
  v4 := Tryd.zeroValue4
  t22 := Tryd.underlying51
  a22 := Tryd.isAgg51
  z22 := Tryd.sizeOf51
  v22 := Tryd.zeroValue51
  a23 := Tryd.isAgg5
  z23 := Tryd.sizeOf5 }
end Go.Proofs
namespace Go.Proofs.YtjjjlilflbddoaaDoor
open Go.RowKit

theorem bv_one : OneCell bv := fun _ => rfl
theorem zeroByte (w : World) : (zeroValue 5).run Tryd.prog w = .ok (bv 0) w := by kernel_rfl
theorem infoU8 : ∃ i, Tryd.prog.info? 5 = some i ∧ i.size = 1 := by
  obtain ⟨i0, hi, hz0, hz1, hz2⟩ := info_parts info5
  exact ⟨i0, hi, hz1⟩

/-- Bytes at the front of a row that is owned are given up. -/
theorem delete_any (B n : Nat) (v : Value) (d : List UInt8) (w : World) (h : w.ownsRow B 5 1 v d.length (d.map bv)) (hn : n ≤ d.length) :
    Calls Tryd.prog 75 #[v, .int .i64 0, .int .i64 n] w fun e w' => ∃ v', e = .returned v' ∧ w'.ownsRow B 5 1 v' (d.drop n).length ((d.drop n).map bv) ∧ (∀ g, v'.ownBlock = some g → v.ownBlock = some g) ∧ Fr (fun k => v.ownBlock = some k) w w' := by
  rcases h.2 with ⟨rfl, h0⟩ | ⟨g, cap, cur, rfl, h1, h2, h3, h4, h5, h6⟩
  · have hd : d = [] := List.length_eq_zero_iff.1 h0
    subst hd
    have hn0 : n = 0 := by simpa using hn
    subst hn0
    go_enter Tryd.func75, Tryd.ntmps75
    go_wp2
    all_goals
      go_ret
      exact ⟨_, rfl, ⟨rfl, Or.inl ⟨rfl, rfl⟩⟩, fun g hg => hg, Fr.refl _ _⟩
  · have hsz : cur.size = cap := by omega
    have hHolds : Sort.Holds bv w g 0 d.toArray := by
      intro j hj
      have hj' : j < d.length := by simpa using hj
      refine ⟨?_, frozen_of h2 _⟩
      rw [cell_of h2, Nat.zero_add]
      have e1 : (cur.toList.take (d.length * 1))[j]? = (d.map bv)[j]? := by rw [h6]
      rw [List.getElem?_take_of_lt (by omega)] at e1
      rw [← Array.getElem?_toList, e1]
      simp [hj']
    obtain ⟨i0, hi0, hi1⟩ := infoU8
    have hC := AnyE.slices_Delete Tryd.laysDel bv bv_one 0 zeroByte i0 hi0 hi1 g 0 cap 0 n d.toArray w hHolds (by simpa using h3) (by unfold maxLen at h4; omega) (Nat.zero_le _) (by simpa using hn)
    have hlen : d.toArray.size = d.length := by simp
    rw [hlen] at hC
    refine hC.mono ?_
    rintro e w' ⟨rfl, q, rfl⟩
    have hnew : (d.toArray.toList.take 0 ++ d.toArray.toList.drop n ++ List.replicate (n - 0) (0 : UInt8)).toArray = (d.drop n ++ List.replicate n 0).toArray := by simp
    rw [hnew]
    have hblk : (Sort.putRow bv (Sort.ahead w q) g 0 (d.drop n ++ List.replicate n 0).toArray).heap[g]? = some (.cells (Sort.putCells bv 0 (d.drop n ++ List.replicate n 0).toArray cur) 5 (0, 0)) := by
      unfold Sort.putRow Sort.mapBlock
      simp only [Array.getElem?_modify, Sort.heap_ahead, if_true, h2, Option.map_some, Sort.onCells]
    have hl2 : (d.drop n).length = d.length - n := by simp
    refine ⟨_, rfl, ⟨by simp, Or.inr ⟨g, cap, _, ?_, h1, hblk, by omega, h4, ?_, ?_⟩⟩, fun g' hg' => hg', ?_⟩
    · rw [hl2, Nat.sub_zero]
    · rw [Nat.mul_one]; unfold Sort.putCells; simpa using hsz
    · rw [Nat.mul_one]
      apply List.ext_getElem?
      intro j
      by_cases hj : j < (d.drop n).length
      · rw [List.getElem?_take_of_lt hj, Array.getElem?_toList]
        unfold Sort.putCells
        rw [Array.getElem?_mapIdx]
        have hjc : j < cur.size := by omega
        rw [Array.getElem?_eq_getElem hjc, Option.map_some, if_pos ⟨Nat.zero_le _, by simp; omega⟩]
        have hjn : n + j < d.length := by omega
        simp [List.getElem?_append_left hj, hjn]
      · rw [List.getElem?_eq_none (by simp; omega), List.getElem?_eq_none (by simp at hj ⊢; omega)]
    · refine ⟨rfl, rfl, rfl, by simp, fun k _ hk => ?_⟩
      have hkg : k ≠ g := fun e => hk (by rw [e]; rfl)
      unfold Sort.putRow Sort.mapBlock
      simp [Array.getElem?_modify, Ne.symm hkg]

set_option maxRecDepth 100000 in
set_option maxHeartbeats 800000 in
theorem pass_any (B rb : Nat) (s : RS) (d : List UInt8) (w : World) (hr : Rd w rb s) (hrow : w.ownsRow B 5 1 s.dv d.length (d.map bv)) (hne : s.dv.ownBlock ≠ some rb) (hp : s.pos ≤ 8 * d.length) (hd : d.length ≤ 4000) (hps : s.ps ≤ 4000) :
    Calls Tryd.prog 52 #[.pointer (some ⟨rb, 0, none⟩)] w fun e w' => e = .returned (.tuple #[]) ∧ ∃ v', Rd w' rb { s with dv := v', ps := s.ps + s.pos / 8, pos := s.pos % 8 } ∧ w'.ownsRow B 5 1 v' (d.drop (s.pos / 8)).length ((d.drop (s.pos / 8)).map bv) ∧
      (∀ g, v'.ownBlock = some g → s.dv.ownBlock = some g) ∧ Fr (fun k => k = rb ∨ s.dv.ownBlock = some k) w w' := by
  have c0 := hr.c0
  have c1 := hr.c1
  have hwn : ((s.pos : Int) / 8) = ((s.pos / 8 : Nat) : Int) := by omega
  have HC := hide (delete_any B (s.pos / 8) s.dv d w hrow (by omega))
  have HR := hide hr
  have HWN := hide hwn
  clear hr hrow hwn
  go_enter Tryd.func52, Tryd.ntmps52
  go_wp2_with fail
  rw [HWN.out]
  refine HC.out.mono ?_
  rintro e w1 ⟨v', rfl, hrow1, hob1, hf1⟩
  obtain ⟨nn, hnn⟩ : ∃ nn, nn = (d.drop (s.pos / 8)).length := ⟨_, rfl⟩
  rw [← hnn] at hrow1
  obtain ⟨ao, cap, rfl⟩ := ownsRow_form hrow1
  have HNN := hide hnn
  clear hnn
  have h1 := hf1.at HR.out.1 hne
  have hb0 := set_of h1 0 (.slice ao nn cap)
  have hb1 := set_of hb0 1 (.int .i64 ((s.ps : Int) + ((s.pos / 8 : Nat) : Int)))
  have k0 : w1.cell? ⟨rb, 0, none⟩ = some s.dv := by rw [cell_of h1]; rfl
  have f0 := frozen_of h1 0
  have k1 : (w1.setCell ⟨rb, 0, none⟩ (.slice ao nn cap)).cell? ⟨rb, 1, none⟩ = some (.int .i64 s.ps) := by rw [cell_of hb0]; rfl
  have f1 := frozen_of hb0 1
  have k2 : ((w1.setCell ⟨rb, 0, none⟩ (.slice ao nn cap)).setCell ⟨rb, 1, none⟩ (.int .i64 ((s.ps : Int) + ((s.pos / 8 : Nat) : Int)))).cell? ⟨rb, 2, none⟩ = some (.int .i64 s.pos) := by rw [cell_of hb1]; rfl
  have f2 := frozen_of hb1 2
  have hb2 := set_of hb1 2 (.int .i64 ((s.pos : Int) - 8 * ((s.pos / 8 : Nat) : Int)))
  obtain ⟨wh, hwh⟩ : ∃ wh, wh = s.pos / 8 := ⟨_, rfl⟩
  rw [← hwh] at k2 f2 hb1 hb2
  have HB2 := hide hb2
  have HROW := hide hrow1
  have HF := hide hf1
  have HWH := hide hwh
  have hwl : wh ≤ 4000 := by omega
  rw [← hwh]
  clear hb0 hb1 hb2 hrow1 hf1 h1 hwh
  go_wp2
  go_end0
  refine ⟨rfl, .slice ao nn cap, ⟨?_, ?_⟩, ?_, hob1, ?_⟩
  · have e1 : ((s.pos : Int) - 8 * (wh : Int)) = ((s.pos % 8 : Nat) : Int) := by rw [HWH.out]; omega
    have e2 : ((s.ps : Int) + (wh : Int)) = ((s.ps + s.pos / 8 : Nat) : Int) := by rw [HWH.out]; omega
    have := HB2.out
    rw [e1, e2] at this
    rw [e1, e2]
    exact this
  · show s.pos % 8 ≤ 8 * nn
    have h1 := HNN.out
    have : (d.drop (s.pos / 8)).length = d.length - s.pos / 8 := by simp
    omega
  · rw [← HNN.out]
    refine ownsRow_fr HROW.out (S := One rb) ((((Fr.refl _ _).setCell (fun _ => one_self rb) _).setCell (fun _ => one_self rb) _).setCell (fun _ => one_self rb) _) (fun g hg => one_ne (fun e => hne (by rw [← e]; exact hob1 g hg)))
  · have hfX : Fr (fun k => k = rb ∨ s.dv.ownBlock = some k) w w1 := HF.out.mono (fun k _ e => Or.inr e)
    exact ((hfX.setCell (p := ⟨rb, 0, none⟩) (fun _ => Or.inl rfl) _).setCell (p := ⟨rb, 1, none⟩) (fun _ => Or.inl rfl) _).setCell (p := ⟨rb, 2, none⟩) (fun _ => Or.inl rfl) _
end Go.Proofs.YtjjjlilflbddoaaDoor
