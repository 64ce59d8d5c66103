import Derived.Test.YtjjjlilflbddoaaGreatDoorGDist
import Derived.Deep.DeepCutAuto
import Derived.Deep.MidRow
import Derived.Deep.OwnRows
namespace Go.Proofs.YtjjjlilflbddoaaGreatDoor
open Go.RowKit

/-- Lengths as they lie in memory. -/
def Bys (w : World) (b off : Nat) (l : List Nat) : Prop := b < w.heap.size ∧ ∀ i, i < l.length → w.cell? ⟨b, off + i, none⟩ = some (.int .u8 (l.getD i 0 : Nat))
theorem Bys.fr {S : Nat → Prop} {w w' : World} {b off : Nat} {l : List Nat} (h : Bys w b off l) (f : Fr S w w') (hs : ¬ S b) : Bys w' b off l :=
  ⟨Nat.lt_of_lt_of_le h.1 f.size, fun i hi => (f.cell (p := ⟨b, off + i, none⟩) h.1 hs).trans (h.2 i hi)⟩

theorem wrap_share (sk n k : Nat) (h : sk ≤ k * 32768) (hk : k ≤ 400) : wrap64 ((sk : Int) + 32768 / 2 ^ n) = ((sk + 32768 / 2 ^ n : Nat) : Int) := by
  have e1 : ((32768 : Int) / 2 ^ n) = ((32768 / 2 ^ n : Nat) : Int) := by simp
  have hdl : 32768 / 2 ^ n ≤ 32768 := Nat.div_le_self _ _
  rw [e1]
  generalize 32768 / 2 ^ n = x at *
  rw [wrap64_id _ (by omega) (by omega)]
  omega

set_option maxRecDepth 100000 in
set_option maxHeartbeats 800000 in
theorem share_any (b off cap : Nat) (l : List Nat) (w : World) (hb : Bys w b off l) (hl : Lens l) (hn : l.length ≤ 400) :
    Calls Tryz.prog 148 #[.slice (some ⟨b, off, none⟩) l.length cap] w fun e w' => e = .returned (.int .i64 (Gz.share l : Nat)) ∧ w' = w := by
  go_enter Tryz.func148, Tryz.ntmps148
  go_wp2
  go_loop [3, 8] (fun sm i => ∃ k : Nat, k ≤ l.length ∧ i = .int .i64 k ∧ sm = .int .i64 (Gz.share (l.take k) : Nat)) (fun _ i => l.length - (intOf i).toNat)
  case atStart => exact ⟨0, Nat.zero_le _, rfl, rfl⟩
  case round =>
    obtain ⟨k, hk, rfl, rfl⟩ := hrel
    by_cases hlt : k < l.length
    · have hc := hb.2 k hlt
      have h15 := hl k hlt
      have hsl := share_le l k
      have HS : Hid (Gz.share (l.take (k + 1)) = Gz.share (l.take k) + shareOf (l.getD k 0)) := share_take l k hlt
      generalize l.getD k 0 = n at *
      generalize hm : l.length = m at *
      generalize Gz.share (l.take k) = sk at *
      have hdl : 32768 / 2 ^ n ≤ 32768 := Nat.div_le_self _ _
      by_cases hn0 : 0 < n
      · go_wp2
        go_round
        case rel => refine ⟨k + 1, by omega, by go_num, congrArg (Value.int .i64) ?_⟩; rw [HS.out]; unfold shareOf; rw [if_pos hn0]; exact wrap_share sk n k hsl (by omega)
        case measure => simp [intOf]; omega
      · go_wp2
        go_round
        case rel => refine ⟨k + 1, by omega, by go_num, congrArg (Value.int .i64) ?_⟩; rw [HS.out]; unfold shareOf; rw [if_neg hn0]; simp
        case measure => simp [intOf]; omega
    · go_wp2
      go_ret
      exact ⟨ret_int (by rw [List.take_of_length_le (by omega)]), rfl⟩

theorem complete_any (b off cap : Nat) (l : List Nat) (w : World) (hb : Bys w b off l) (hl : Lens l) (hn : l.length ≤ 400) :
    Calls Tryz.prog 134 #[.slice (some ⟨b, off, none⟩) l.length cap] w fun e w' => e = .returned (.bool (Gz.complete l)) ∧ w' = w := by
  have hsl := share_le l l.length
  rw [List.take_length] at hsl
  go_enter Tryz.func134, Tryz.ntmps134
  go_wp2_with (go_at_call 148; refine (share_any b off cap l _ hb hl hn).mono ?_; rintro e w' ⟨rfl, rfl⟩)
  go_ret
  refine ⟨ret_one (congrArg Value.bool ?_), rfl⟩
  unfold Gz.complete
  generalize Gz.share l = x
  rw [Bool.eq_iff_iff]; simp; omega

set_option maxRecDepth 100000 in
set_option maxHeartbeats 800000 in
theorem fewDistances_any (b off cap : Nat) (l : List Nat) (w : World) (hb : Bys w b off l) (hl : Lens l) (hn : l.length ≤ 400) :
    Calls Tryz.prog 136 #[.slice (some ⟨b, off, none⟩) l.length cap] w fun e w' => e = .returned (.bool (decide (l.sum ≤ 1))) ∧ w' = w := by
  go_enter Tryz.func136, Tryz.ntmps136
  go_wp2
  go_loop [3, 8] (fun sm i => ∃ k : Nat, k ≤ l.length ∧ i = .int .i64 k ∧ sm = .int .i64 ((l.take k).sum : Nat)) (fun _ i => l.length - (intOf i).toNat)
  case atStart => exact ⟨0, Nat.zero_le _, rfl, rfl⟩
  case round =>
    obtain ⟨k, hk, rfl, rfl⟩ := hrel
    by_cases hlt : k < l.length
    · have hc := hb.2 k hlt
      have h15 := hl k hlt
      have hsl := sum_take_15 l hl k hk
      have HS : Hid ((l.take (k + 1)).sum = (l.take k).sum + l.getD k 0) := sum_take_succ l k hlt
      generalize l.getD k 0 = n at *
      generalize hm : l.length = m at *
      generalize (l.take k).sum = sk at *
      go_wp2
      go_round
      case rel => refine ⟨k + 1, by omega, by go_num, congrArg (Value.int .i64) ?_⟩; rw [HS.out]; omega
      case measure => simp [intOf]; omega
    · go_wp2
      go_ret
      refine ⟨ret_one (congrArg Value.bool ?_), rfl⟩
      rw [List.take_of_length_le (by omega)]
      rw [Bool.eq_iff_iff]; simp; omega
end Go.Proofs.YtjjjlilflbddoaaGreatDoor
namespace Go.Proofs.YtjjjlilflbddoaaGreatDoor
open Go.RowKit

theorem Bys.take {w : World} {b off : Nat} {l : List Nat} (h : Bys w b off l) (k : Nat) : Bys w b off (l.take k) :=
  ⟨h.1, fun i hi => by
    have h1 : i < l.length := by simp at hi; omega
    have h2 : i < k := by simp at hi; omega
    have e : (l.take k).getD i 0 = l.getD i 0 := by simp [List.getD, List.getElem?_take_of_lt h2]
    rw [e]; exact h.2 i h1⟩
theorem Bys.drop {w : World} {b off : Nat} {l : List Nat} (h : Bys w b off l) (k : Nat) : Bys w b (off + k) (l.drop k) :=
  ⟨h.1, fun i hi => by
    have h1 : k + i < l.length := by simp at hi; omega
    have e : (l.drop k).getD i 0 = l.getD (k + i) 0 := by simp [List.getD]
    rw [e, Nat.add_assoc]; exact h.2 (k + i) h1⟩
theorem complete_at (b off n cap : Nat) (l : List Nat) (w : World) (hb : Bys w b off l) (hl : Lens l) (hn : n ≤ 400) (he : n = l.length) :
    Calls Tryz.prog 134 #[.slice (some ⟨b, off, none⟩) n cap] w fun e w' => e = .returned (.bool (Gz.complete l)) ∧ w' = w := by
  subst he; exact complete_any b off cap l w hb hl hn
theorem few_at (b off n cap : Nat) (l : List Nat) (w : World) (hb : Bys w b off l) (hl : Lens l) (hn : n ≤ 400) (he : n = l.length) :
    Calls Tryz.prog 136 #[.slice (some ⟨b, off, none⟩) n cap] w fun e w' => e = .returned (.bool (decide (l.sum ≤ 1))) ∧ w' = w := by
  subst he; exact fewDistances_any b off cap l w hb hl hn

set_option maxRecDepth 100000 in
set_option maxHeartbeats 1600000 in
theorem check_any (sp : Nat → Addr) (lb : Nat) (l : List Nat) (w : World) (hE : Env sp w) (hb : Bys w lb 0 l) (hl : Lens l) (hn : l.length = 320) :
    Calls Tryz.prog 116 #[.pointer (some ⟨lb, 0, none⟩)] w fun e w' => Fr No w w' ∧
      ((Gz.check l = true ∧ e = .returned .nilIface) ∨ (Gz.check l = false ∧ ∃ v n, e = .returned v ∧ Err sp w' v 5 n)) := by
  have hsent : w.cell? ⟨2, 0, none⟩ = some (.iface 248 (.pointer (some (sp 5)))) := hE.err 5 (by omega) (by omega)
  have h256 : w.cell? ⟨lb, 256, none⟩ = some (.int .u8 (l.getD 256 0 : Nat)) := by have := hb.2 256 (by omega); simpa using this
  have hb1 := hb.take 288
  have hb2 := hb.drop 288
  have hnot : ∀ (x : Bool) (w : World), (Op.unary .not (.bool x)).run Tryz.prog w = .ok (.bool (!x)) w := fun _ _ => rfl
  have hdec : Gz.check l = ((l.getD 256 0 != 0) && Gz.complete (l.take 288) && (Gz.complete (l.drop 288) || decide ((l.drop 288).sum ≤ 1))) := rfl
  rw [hdec]
  have h15 := hl 256 (by omega)
  generalize l.getD 256 0 = z at *
  obtain ⟨c1, hc1⟩ : ∃ c1, c1 = Gz.complete (l.take 288) := ⟨_, rfl⟩
  obtain ⟨c2, hc2⟩ : ∃ c2, c2 = Gz.complete (l.drop 288) := ⟨_, rfl⟩
  obtain ⟨c3, hc3⟩ : ∃ c3, c3 = decide ((l.drop 288).sum ≤ 1) := ⟨_, rfl⟩
  rw [← hc1, ← hc2, ← hc3]
  have H1 := hide hc1
  have H2 := hide hc2
  have H3 := hide hc3
  clear hc1 hc2 hc3 hdec
  have L1 := hl.take 288
  have L2 := hl.drop 288
  by_cases hz : z = 0
  · subst hz
    go_enter Tryz.func116, Tryz.ntmps116
    go_wp2
    go_quiet (fail)
    go_wp2
    go_ret
    exact ⟨((Fr.refl _ _).drewN _).alloc _, Or.inr ⟨rfl, _, 1, rfl, .fault _ _ _ _ _ (alloc_at (World.drewN w _) _) (.sent 5 (by omega) (by omega))⟩⟩
  · have hz' : ((z : Int) == 0) = false := by simp; omega
    have hz2 : (z != 0) = true := by simp; omega
    rw [hz2]
    clear hz2
    obtain rfl | rfl : c1 = false ∨ c1 = true := by cases c1 <;> simp
    · go_enter Tryz.func116, Tryz.ntmps116
      go_wp2
      go_quiet (fail)
      go_wp2_with fail
      refine (complete_at lb 0 288 320 (l.take 288) _ (by exact hb1) L1 (by omega) (by simp; omega)).mono ?_
      rintro e w1 ⟨rfl, rfl⟩
      rw [← H1.out]
      go_wp2
      go_ret
      exact ⟨((Fr.refl _ _).drewN _).alloc _, Or.inr ⟨by simp, _, 1, rfl, .fault _ _ _ _ _ (alloc_at (World.drewN w _) _) (.sent 5 (by omega) (by omega))⟩⟩
    · obtain rfl | rfl : c2 = true ∨ c2 = false := by cases c2 <;> simp
      · go_enter Tryz.func116, Tryz.ntmps116
        go_wp2
        go_quiet (fail)
        go_wp2_with fail
        refine (complete_at lb 0 288 320 (l.take 288) _ (by exact hb1) L1 (by omega) (by simp; omega)).mono ?_
        rintro e w1 ⟨rfl, rfl⟩
        rw [← H1.out]
        go_wp2_with fail
        refine (complete_at lb 288 32 32 (l.drop 288) _ (by exact hb2) L2 (by omega) (by simp; omega)).mono ?_
        rintro e w1 ⟨rfl, rfl⟩
        rw [← H2.out]
        go_wp2
        go_ret
        exact ⟨(Fr.refl _ _).drewN _, Or.inl ⟨by simp, rfl⟩⟩
      · obtain rfl | rfl : c3 = true ∨ c3 = false := by cases c3 <;> simp
        · go_enter Tryz.func116, Tryz.ntmps116
          go_wp2
          go_quiet (fail)
          go_wp2_with fail
          refine (complete_at lb 0 288 320 (l.take 288) _ (by exact hb1) L1 (by omega) (by simp; omega)).mono ?_
          rintro e w1 ⟨rfl, rfl⟩
          rw [← H1.out]
          go_wp2_with fail
          refine (complete_at lb 288 32 32 (l.drop 288) _ (by exact hb2) L2 (by omega) (by simp; omega)).mono ?_
          rintro e w1 ⟨rfl, rfl⟩
          rw [← H2.out]
          go_wp2_with fail
          refine (few_at lb 288 32 32 (l.drop 288) _ (by exact hb2) L2 (by omega) (by simp; omega)).mono ?_
          rintro e w1 ⟨rfl, rfl⟩
          rw [← H3.out]
          go_wp2
          go_ret
          exact ⟨(Fr.refl _ _).drewN _, Or.inl ⟨by simp, rfl⟩⟩
        · go_enter Tryz.func116, Tryz.ntmps116
          go_wp2
          go_quiet (fail)
          go_wp2_with fail
          refine (complete_at lb 0 288 320 (l.take 288) _ (by exact hb1) L1 (by omega) (by simp; omega)).mono ?_
          rintro e w1 ⟨rfl, rfl⟩
          rw [← H1.out]
          go_wp2_with fail
          refine (complete_at lb 288 32 32 (l.drop 288) _ (by exact hb2) L2 (by omega) (by simp; omega)).mono ?_
          rintro e w1 ⟨rfl, rfl⟩
          rw [← H2.out]
          go_wp2_with fail
          refine (few_at lb 288 32 32 (l.drop 288) _ (by exact hb2) L2 (by omega) (by simp; omega)).mono ?_
          rintro e w1 ⟨rfl, rfl⟩
          rw [← H3.out]
          go_wp2
          go_ret
          exact ⟨((Fr.refl _ _).drewN _).alloc _, Or.inr ⟨by simp, _, 1, rfl, .fault _ _ _ _ _ (alloc_at (World.drewN w _) _) (.sent 5 (by omega) (by omega))⟩⟩
end Go.Proofs.YtjjjlilflbddoaaGreatDoor
namespace Go.Proofs.YtjjjlilflbddoaaGreatDoor
open Go.RowKit

/-- A code's cells. -/
def CC (count : List Nat) (sv : Value) (lg : Nat) : Array Value := (count.map iv ++ [sv, iv lg]).toArray

theorem CC_count {count : List Nat} {sv : Value} {lg n : Nat} (h : count.length = 16) (hn : n < 16) : (CC count sv lg)[n]? = some (.int .i64 (count.getD n 0 : Nat)) := by
  have : n < count.length := by omega
  simp [CC, iv, List.getElem?_append, h, hn, List.getD]
theorem CC_16 {count : List Nat} {sv : Value} {lg : Nat} (h : count.length = 16) : (CC count sv lg)[16]? = some sv := by
  simp [CC, h]
theorem CC_17 {count : List Nat} {sv : Value} {lg : Nat} (h : count.length = 16) : (CC count sv lg)[17]? = some (.int .i64 lg) := by
  simp [CC, iv, h]
theorem CC_set {count : List Nat} {sv : Value} {lg n x : Nat} (h : count.length = 16) (hn : n < 16) : (CC count sv lg).setIfInBounds n (.int .i64 x) = CC (count.set n x) sv lg := by
  simp only [CC, List.setIfInBounds_toArray]
  rw [List.set_append, if_pos (by simp; omega), List.map_set]
  rfl
theorem CC_set16 {count : List Nat} {sv sv' : Value} {lg : Nat} (h : count.length = 16) : (CC count sv lg).setIfInBounds 16 sv' = CC count sv' lg := by
  simp only [CC, List.setIfInBounds_toArray]
  rw [List.set_append, if_neg (by simp; omega)]
  simp [h]
theorem CC_set17 {count : List Nat} {sv : Value} {lg lg' : Nat} (h : count.length = 16) : (CC count sv lg).setIfInBounds 17 (.int .i64 lg') = CC count sv lg' := by
  simp only [CC, List.setIfInBounds_toArray]
  rw [List.set_append, if_neg (by simp; omega)]
  simp [h, iv]

theorem info3 : (Tryz.prog.info? 3).map (fun i => (i.zero, i.size, i.bytes)) = some (some (.int .i64 0), 1, 8) := by kernel_rfl
theorem run_idx (ct : List Nat) (k : Nat) (hk : k < 16) (hl : ct.length = 16) (w : World) : (Instr.index 193 (.agg (ct.map iv).toArray) (.int .i64 k)).run Tryz.prog w = .ok (.int .i64 (ct.getD k 0 : Nat)) w := by
  obtain ⟨i0, hi, hz0, hz1, hz2⟩ := info_parts info3
  have hk' : k < ct.length := by omega
  simp [Instr.index, asIntOf, run_underlying Tryz.underlying193, sizeOf, typeInfo, hi, hz1, part, isAgg, run_underlying Tryz.underlying3, hk', iv, List.getD]
  intro h; omega

theorem maxInt (a b : Nat) : (if a < b then (b : Int) else (a : Int)) = ((max a b : Nat) : Int) := by
  split <;> omega

theorem CC_size {count : List Nat} {sv : Value} {lg : Nat} (h : count.length = 16) : (CC count sv lg).size = 18 := by simp [CC, h]

/-- What makeCode leaves. -/
def MadeCode (l : List Nat) (w : World) (e : Ending) (w' : World) : Prop :=
  ∃ sb, w.heap.size ≤ sb ∧ e = .returned (.agg (CC (Gz.makeCode l).count (.slice (some ⟨sb, 0, none⟩) (Gz.makeCode l).symbols.length (Gz.makeCode l).symbols.length) (Gz.makeCode l).longest)) ∧
    w'.heap[sb]? = some (.cells (ivs (Gz.makeCode l).symbols) 3 (0, 0)) ∧ Fr No w w'

set_option maxRecDepth 100000 in
set_option maxHeartbeats 1600000 in
theorem makeCode_any (b off cap : Nat) (l : List Nat) (w : World) (hb : Bys w b off l) (hl : Lens l) (hn : l.length ≤ 320) :
    Calls Tryz.prog 109 #[.slice (some ⟨b, off, none⟩) l.length cap] w (MadeCode l w) := by
  go_enter Tryz.func109, Tryz.ntmps109
  go_wp2
  go_loopw [13] (fun i wr => ∃ (k : Nat) (ct : List Nat) (lg : Nat), k ≤ l.length ∧ i = .int .i64 k ∧ ct = Gz.counts (l.take k) ∧ lg = (l.take k).foldl max 0 ∧ wr.heap[w.heap.size + 1]? = some (.cells (CC ct (.slice none 0 0) lg) 195 (0, 0)) ∧ wr.heap[w.heap.size]? = some (.cells (CC (List.replicate 16 0) (.slice none 0 0) 0) 195 (0, 0)) ∧ wr.heap.size = w.heap.size + 2 ∧ Fr No w wr) (fun i _ => l.length - (intOf i).toNat)
  case atStart => exact ⟨0, _, _, Nat.zero_le _, rfl, rfl, rfl, by rw [show w.heap.size + 1 = (w.alloc (.cells (CC (List.replicate 16 0) (.slice none 0 0) 0) 195)).heap.size by simp]; exact alloc_at _ _, alloc_old (alloc_at w _), by simp, ((Fr.refl _ _).alloc _).alloc _⟩
  case round =>
    obtain ⟨k, ct, lg, hk, rfl, hct, hlg, hblk, hblk0, hsz, hfr⟩ := hrel
    have hctl : ct.length = 16 := by rw [hct]; exact counts_length _
    by_cases hlt : k < l.length
    · have hc := (hb.fr hfr (no_no _)).2 k hlt
      have h15 := hl k hlt
      have HC := hide (counts_snoc l k hlt)
      have HM := hide (max_snoc l k hlt)
      have hx := getD_le_sum ct (l.getD k 0)
      have hx2 := counts_sum l hl k hk
      rw [← hct] at HC hx2
      rw [← hlg] at HM
      have HL := hide hlg
      have HCT := hide hct
      clear hct hlg
      have HB := hide hblk
      have HB0 := hide hblk0
      have HSZ := hide hsz
      generalize l.getD k 0 = n at *
      by_cases hn0 : 0 < n
      · have c17 := (cell_of hblk 17).trans (CC_17 hctl)
        have f17 := frozen_of hblk 17
        have cn := (cell_of hblk n).trans (CC_count hctl (by omega))
        have fn := frozen_of hblk n
        obtain ⟨x, hxe⟩ : ∃ x, x = ct.getD n 0 := ⟨_, rfl⟩
        rw [← hxe] at cn HC hx
        generalize hm : l.length = m at *
        clear hxe hblk hblk0 hsz
        go_wp2
        refine ⟨⟨k + 1, ct.set n (x + 1), max lg n, by omega, by go_num, ?_, HM.out.symm, ?_, ?_, ?_, ?_⟩, by simp [intOf]; omega⟩
        · rw [HC.out, if_pos hn0]
        · have e1 := set_of HB.out n (.int .i64 ((x : Int) + 1))
          rw [show ((x : Int) + 1) = ((x + 1 : Nat) : Int) by omega, CC_set hctl (by omega)] at e1
          have e2 := set_of e1 17 (.int .i64 (if lg < n then (n : Int) else (lg : Int)))
          rw [maxInt, CC_set17 (by simpa using hctl)] at e2
          rw [maxInt]
          exact e2
        · rw [set_other _ _ (by omega), set_other _ _ (by omega)]; exact HB0.out
        · simp; exact HSZ.out
        · exact heap_of_set (heap_of_set hfr (by omega) _ _) (by omega) _ _
      · generalize hm : l.length = m at *
        clear hblk hblk0 hsz
        go_wp2
        refine ⟨⟨k + 1, ct, lg, by omega, by go_num, ?_, ?_, HB.out, HB0.out, HSZ.out, hfr⟩, by simp [intOf]; omega⟩
        · rw [HC.out, if_neg hn0]
        · rw [HM.out]; omega
    · have hke : k = l.length := by omega
      subst hke
      rw [List.take_length] at hct hlg
      have HCT := hide hct
      have HLG := hide hlg
      have HB := hide hblk
      have HB0 := hide hblk0
      have HSZ := hide hsz
      clear hct hlg hblk hblk0
      have hrg : wr.rangeAt (w.heap.size + 1) 0 (ct.map iv) := fun j v hj => by
        have hj16 : j < 16 := by have := (List.getElem?_eq_some_iff.1 hj).1; simp at this; omega
        rw [Nat.zero_add, cell_of HB.out j, CC_count hctl hj16, ← hj]
        have : j < ct.length := by omega
        simp [iv, List.getD, this]
      have hrg2 : (wr.alloc (.cells (ivs (List.replicate 17 0)) 226)).rangeAt (w.heap.size + 1) 0 (ct.map iv) := fun j v hj => by
        rw [World.cell?_alloc_past _ _ _ (by show w.heap.size + 1 < _; omega)]; exact hrg j v hj
      have HRG := hide hrg2
      clear hrg hrg2
      go_wp2_with (refine wpList_load_mid rfl 193 (.tmp 33) rfl (w.heap.size + 1) 0 rfl (ct.map iv) _ (by exact HRG.out) Tryz.underlying193 rfl (by rw [List.length_map, hctl]; kernel_rfl) ?_)
      have hct320 : ct.sum ≤ 320 := by have := counts_sum l hl l.length (Nat.le_refl _); rw [List.take_length, ← HCT.out] at this; omega
      go_loopw [35] (fun i w2 => ∃ (k : Nat) (pl : List Nat), k ≤ 16 ∧ i = .int .i64 k ∧ pl = plk ct k ∧ w2.heap[w.heap.size + 2]? = some (.cells (ivs pl) 226 (0, 0)) ∧ w2.heap[w.heap.size + 1]? = some (.cells (CC ct (.slice none 0 0) lg) 195 (0, 0)) ∧ w2.heap[w.heap.size]? = some (.cells (CC (List.replicate 16 0) (.slice none 0 0) 0) 195 (0, 0)) ∧ w2.heap.size = w.heap.size + 3 ∧ Fr No w w2) (fun i _ => 16 - (intOf i).toNat)
      case atStart => exact ⟨0, _, Nat.zero_le _, rfl, rfl, by rw [plk_zero, ← hsz]; exact alloc_at _ _, alloc_old HB.out, alloc_old HB0.out, by simp; omega, hfr.alloc _⟩
      case round =>
        obtain ⟨k, pl, hk2, rfl, hpl, hp2, hp1, hp0, hsz2, hfr2⟩ := hrel
        have hpll : pl.length = 17 := by rw [hpl]; exact plk_len ct k
        have H2 := hide hp2
        have H1 := hide hp1
        have H0 := hide hp0
        have HS2 := hide hsz2
        have HPL := hide hpl
        by_cases hk16 : k < 16
        · have ck := (cell_of hp2 k).trans (ivs_get (by omega))
          have ck1 := (cell_of hp2 (k + 1)).trans (ivs_get (by omega))
          have fk1 := frozen_of hp2 (k + 1)
          have hxk : pl.getD k 0 ≤ 320 := by rw [hpl, plk_get ct k k (by omega), if_pos (Nat.le_refl _)]; have := sum_take_le ct k; omega
          have hyk := getD_le_sum ct k
          have hyk' : ct[k]? = some (ct.getD k 0) := by simp [List.getD, show k < ct.length by omega]
          have run_idx2 := run_idx ct k hk16 hctl
          have HX : Hid (pl.set (k + 1) (pl.getD k 0 + ct.getD k 0) = plk ct (k + 1)) := by unfold Hid; rw [hpl]; exact plk_succ ct k hctl hk16
          clear hpl hp2 hp1 hp0 hsz2
          generalize pl.getD k 0 = x at *
          generalize ct.getD k 0 = y at *
          have hidx := run_idx2
          go_wp2
          refine ⟨⟨k + 1, pl.set (k + 1) (x + y), by omega, by go_num, HX.out, ?_, ?_, ?_, ?_, ?_⟩, by simp [intOf]; omega⟩
          · have e1 := set_of H2.out (k + 1) (.int .i64 ((x : Int) + (y : Int)))
            rw [show ((x : Int) + (y : Int)) = ((x + y : Nat) : Int) by omega, ivs_set] at e1
            exact e1
          · rw [set_other _ _ (by omega)]; exact H1.out
          · rw [set_other _ _ (by omega)]; exact H0.out
          · simp; exact HS2.out
          · exact heap_of_set hfr2 (by omega) _ _
        · have hk16' : k = 16 := by omega
          subst hk16'
          have c16 := (cell_of hp2 16).trans (ivs_get (by omega))
          rw [hpl, plk_get ct 16 16 (by omega), if_pos (Nat.le_refl _), List.take_of_length_le (by omega)] at c16
          have hplE : pl = Gz.places ct := by rw [hpl, plk_end]
          have h316 : wr.cell? ⟨w.heap.size + 1, 16, none⟩ = some (.slice none 0 0) := (cell_of hp1 16).trans (CC_16 hctl)
          have f316 := frozen_of hp1 16
          have HPE := hide hplE
          clear hp2 hp1 hp0 hpl hplE
          obtain ⟨T, hT⟩ : ∃ T, T = ct.sum := ⟨_, rfl⟩
          rw [← hT] at c16 hct320
          have HT := hide hT
          have hmk := run_make_row' (P := Tryz.prog) 62 3 (.int .i64 0) 8 Tryz.underlying62 info3 rfl .i64 .i64 T (by omega) (by omega)
          clear hT
          go_wp2
          go_loopw [54] (fun i w3 => ∃ (k : Nat) (sp2 : List Nat × List Nat), k ≤ l.length ∧ i = .int .i64 k ∧ sp2 = fillTo l k ∧ w3.heap[w.heap.size + 3]? = some (.cells (ivs sp2.1) 3 (0, 0)) ∧ w3.heap[w.heap.size + 2]? = some (.cells (ivs sp2.2) 226 (0, 0)) ∧ w3.heap[w.heap.size + 1]? = some (.cells (CC ct (.slice (some ⟨w.heap.size + 3, 0, none⟩) T T) lg) 195 (0, 0)) ∧ w3.heap[w.heap.size]? = some (.cells (CC (List.replicate 16 0) (.slice none 0 0) 0) 195 (0, 0)) ∧ w3.heap.size = w.heap.size + 4 ∧ Fr No w w3) (fun i _ => l.length - (intOf i).toNat)
          case atStart =>
            have hz3 : (wr.setCell ⟨w.heap.size + 1, 16, none⟩ (.slice (some ⟨w.heap.size + 3, 0, none⟩) T T)).heap.size = w.heap.size + 3 := by rw [World.size_setCell]; exact HS2.out
            refine ⟨0, fillTo l 0, Nat.zero_le _, rfl, rfl, ?_, ?_, ?_, ?_, ?_, ?_⟩
            · have e1 := alloc_at (wr.setCell ⟨w.heap.size + 1, 16, none⟩ (.slice (some ⟨w.heap.size + 3, 0, none⟩) T T)) (.cells (madeCells #[.int .i64 0] T) 3)
              rw [hz3] at e1
              rw [e1, made_zero, HT.out, HCT.out]
              rfl
            · have e1 : (wr.setCell ⟨w.heap.size + 1, 16, none⟩ (.slice (some ⟨w.heap.size + 3, 0, none⟩) T T)).heap[w.heap.size + 2]? = some (.cells (ivs pl) 226 (0, 0)) := by rw [set_other _ _ (by omega)]; exact H2.out
              rw [alloc_old e1, HPE.out, HCT.out]
              rfl
            · have e1 := set_of H1.out 16 (.slice (some ⟨w.heap.size + 3, 0, none⟩) T T)
              rw [CC_set16 hctl] at e1
              exact alloc_old e1
            · have e1 : (wr.setCell ⟨w.heap.size + 1, 16, none⟩ (.slice (some ⟨w.heap.size + 3, 0, none⟩) T T)).heap[w.heap.size]? = some (.cells (CC (List.replicate 16 0) (.slice none 0 0) 0) 195 (0, 0)) := by rw [set_other _ _ (by omega)]; exact H0.out
              exact alloc_old e1
            · rw [World.size_alloc, hz3]
            · exact (heap_of_set hfr2 (by omega) _ _).alloc _
          case round =>
            obtain ⟨k, sp2, hk3, rfl, hsp2, hq3, hq2, hq1, hq0, hsz3, hfr3⟩ := hrel
            have hinv := fill_inv l hl k hk3
            rw [← hsp2] at hinv
            obtain ⟨hi1, hi2, hi3⟩ := hinv
            have Q3 := hide hq3
            have Q2 := hide hq2
            have Q1 := hide hq1
            have Q0 := hide hq0
            have QS := hide hsz3
            by_cases hlt3 : k < l.length
            · have hc := (hb.fr hfr3 (no_no _)).2 k hlt3
              have h15 := hl k hlt3
              have HF : Hid (fillTo l (k + 1) = Gz.fillStep sp2 (k, l.getD k 0)) := by unfold Hid; rw [hsp2]; exact fillTo_succ l k hlt3
              have hflt := fill_lt l hl k hlt3
              rw [← hsp2, ← HCT.out, ← HT.out] at hflt
              rw [← HCT.out, ← HT.out] at hi1
              clear hi3 hsp2
              generalize l.getD k 0 = n at *
              by_cases hn0 : 0 < n
              · have hx := hflt hn0
                have c16b := (cell_of hq1 16).trans (CC_16 hctl)
                have cn := (cell_of hq2 n).trans (ivs_get (by omega))
                have fn := frozen_of hq2 n
                obtain ⟨x, hxe⟩ : ∃ x, x = sp2.2.getD n 0 := ⟨_, rfl⟩
                rw [← hxe] at cn hx
                have cx := (cell_of hq3 x).trans (ivs_get (by omega))
                have fx := frozen_of hq3 x
                have HXE := hide hxe
                generalize hm : l.length = m at *
                clear hxe hq3 hq2 hq1 hq0 hsz3 hflt
                go_wp2
                go_region
                all_goals
                  go_wp2
                  refine ⟨⟨k + 1, (sp2.1.set x k, sp2.2.set n (x + 1)), by omega, by go_num, ?_, ?_, ?_, ?_, ?_, ?_, ?_⟩, by simp [intOf]; omega⟩
                  · rw [HF.out]; unfold Gz.fillStep; rw [if_pos hn0, ← HXE.out]
                  · have e1 := set_of Q3.out x (.int .i64 (k : Int))
                    rw [ivs_set] at e1
                    rw [heap_drew, set_other _ _ (by omega)]
                    exact e1
                  · rw [heap_drew]
                    have e1 : (wr.setCell ⟨w.heap.size + 3, x, none⟩ (.int .i64 (k : Int))).heap[w.heap.size + 2]? = some (.cells (ivs sp2.2) 226 (0, 0)) := by rw [set_other _ _ (by omega)]; exact Q2.out
                    have e2 := set_of e1 n (.int .i64 ((x : Int) + 1))
                    rw [show ((x : Int) + 1) = ((x + 1 : Nat) : Int) by omega, ivs_set] at e2
                    exact e2
                  · rw [heap_drew, set_other _ _ (by omega), set_other _ _ (by omega)]; exact Q1.out
                  · rw [heap_drew, set_other _ _ (by omega), set_other _ _ (by omega)]; exact Q0.out
                  · rw [heap_drew, World.size_setCell, World.size_setCell]; exact QS.out
                  · exact (heap_of_set (heap_of_set hfr3 (by omega) _ _) (by omega) _ _).drew
              · generalize hm : l.length = m at *
                clear hq3 hq2 hq1 hq0 hsz3 hflt
                go_wp2
                refine ⟨⟨k + 1, sp2, by omega, by go_num, ?_, Q3.out, Q2.out, Q1.out, Q0.out, QS.out, hfr3⟩, by simp [intOf]; omega⟩
                rw [HF.out]; unfold Gz.fillStep; rw [if_neg hn0]
            · have hke3 : k = l.length := by omega
              subst hke3
              rw [fillTo_end] at hsp2
              have HE := hide hsp2
              clear hi3 hsp2 hq3 hq2 hq1 hq0 hsz3
              go_wp2_with (first | (refine wpList_load_row rfl 195 (.tmp 3) rfl (w.heap.size + 1) rfl 195 (CC ct (.slice (some ⟨w.heap.size + 3, 0, none⟩) T T) lg) (0, 0) _ (by exact Q1.out) Tryz.underlying195 rfl (by rw [CC_size hctl]; kernel_rfl) ?_) | (refine wpList_store_row rfl 195 (.tmp 2) (.tmp 74) rfl w.heap.size (CC ct (.slice (some ⟨w.heap.size + 3, 0, none⟩) T T) lg) rfl rfl 195 (CC (List.replicate 16 0) (.slice none 0 0) 0) (by exact Q0.out) (by rw [CC_size hctl]; kernel_rfl) (by simp [CC, hctl]) (by simp [CC, iv, Value.oneCell']) ?_))
              have hfin : (wr.setRow w.heap.size (CC ct (.slice (some ⟨w.heap.size + 3, 0, none⟩) T T) lg)).heap[w.heap.size]? = some (.cells (CC ct (.slice (some ⟨w.heap.size + 3, 0, none⟩) T T) lg) 195 (0, 0)) := setRow_heap _ _ _ _ _ _ Q0.out
              refine bodyPost_ret (results_cell_row rfl _ _ w.heap.size 195 _ (0, 0) _ rfl hfin Tryz.underlying195 rfl (by rw [CC_size hctl]; kernel_rfl)) rfl ?_
              have hsy : sp2.1 = (Gz.makeCode l).symbols := by rw [HE.out]; rfl
              have hTl : T = (Gz.makeCode l).symbols.length := by rw [← hsy, hi1, HT.out, HCT.out]
              refine ⟨w.heap.size + 3, by omega, ?_, ?_, ?_⟩
              · rw [← hTl, HCT.out, HLG.out]; rfl
              · rw [setRow_other _ _ _ _ (by omega), ← hsy]; exact Q3.out
              · refine ⟨hfr3.os, hfr3.tape, hfr3.output, by rw [size_setRow]; exact hfr3.size, fun k hk _ => ?_⟩
                rw [setRow_other _ _ _ _ (by omega)]; exact hfr3.block k hk (no_no _)
end Go.Proofs.YtjjjlilflbddoaaGreatDoor
