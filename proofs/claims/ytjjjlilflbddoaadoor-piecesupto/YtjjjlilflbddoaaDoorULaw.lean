import Derived.Test.YtjjjlilflbddoaaDoorStored
import Derived.Deep.AppendLies
import Derived.Test.YtjjjlilflbddoaaDoorLaws
import Derived.Test.YtjjjlilflbddoaaDoorUPure
import Derived.Test.YtjjjlilflbddoaaDoorUDec
/-
  The data cut into pieces: a row of strings that join to the data.
-/
namespace Go.Proofs.YtjjjlilflbddoaaDoor
open Go.RowKit

theorem pick_wide (n : Int) (k : Nat) (w : World) (h0 : -9223372036854775808 ≤ n) (h1 : n ≤ 9223372036854775807) (hk : 1 ≤ k) (hk2 : k ≤ 5000) : Calls Tryd.prog 12 #[.int .i64 n, .int .i64 k] w fun e w' => (∃ r : Nat, r < k ∧ e = .returned (.int .i64 r)) ∧ w' = w := by
  by_cases hn : n < 0
  · go_enter Tryd.func12, Tryd.ntmps12
    go_wp2
    go_ret
    obtain ⟨m, hm⟩ : ∃ m : Nat, n + 1 = -(m : Int) := ⟨(-(n + 1)).toNat, by omega⟩
    refine ⟨⟨m % k, Nat.mod_lt _ (by omega), ?_⟩, rfl⟩
    have : -((n + 1).tmod k) = ((m % k : Nat) : Int) := by rw [hm, Int.neg_tmod, Int.neg_neg]; exact Int.ofNat_tmod m k
    exact congrArg (fun z => Ending.returned (.int .i64 z)) this
  · go_enter Tryd.func12, Tryd.ntmps12
    go_wp2
    go_ret
    obtain ⟨m, rfl⟩ : ∃ m : Nat, n = m := ⟨n.toNat, by omega⟩
    exact ⟨⟨m % k, Nat.mod_lt _ (by omega), rfl⟩, rfl⟩

/-- The numbers of a slice that was handed in. -/
def Nums (w : World) (v : Value) (n : Nat) : Prop := ∃ a cap, v = .slice a n cap ∧ ∀ j, j < n → ∃ b off z, a = some ⟨b, off, none⟩ ∧ b < w.heap.size ∧ w.cell? ⟨b, off + j, none⟩ = some (.int .i64 z) ∧ -9223372036854775808 ≤ z ∧ z ≤ 9223372036854775807
def joined (ps : List ByteArray) : List UInt8 := (ps.map fun s => s.data.toList).flatten
theorem joined_snoc (ps : List ByteArray) (s : ByteArray) : joined (ps ++ [s]) = joined ps ++ s.data.toList := by unfold joined; simp
theorem info_string : (Tryd.prog.info? 9).map (fun i => (i.zero, i.size, i.bytes)) = some (some (.string ⟨#[]⟩), 1, 16) := by kernel_rfl
theorem srow_form {w : World} {B n : Nat} {v : Value} {xs : List Value} (h : w.ownsRow B 9 1 v n xs) : ∃ ao cap, v = .slice ao n cap := by
  rcases h.2 with ⟨h, h0⟩ | ⟨g, cap, cur, h, _⟩
  · exact ⟨none, 0, by rw [h, h0]⟩
  · exact ⟨_, _, h⟩
theorem srow_nil (w : World) (B : Nat) : w.ownsRow B 9 1 (.slice none 0 0) 0 [] := ⟨rfl, Or.inl ⟨rfl, rfl⟩⟩

theorem srow_lt {w : World} {B n g : Nat} {v : Value} {xs : List Value} (h : w.ownsRow B 9 1 v n xs) (hb : v.ownBlock = some g) : B ≤ g ∧ g < w.heap.size := by
  rcases h.2 with ⟨h, h0⟩ | ⟨g', cap, cur, h, h2, h3, _⟩
  · rw [h] at hb; cases hb
  · rw [h] at hb
    have e : g' = g := by simpa [Value.ownBlock] using hb
    subst e
    exact ⟨h2, lt_of h3⟩
theorem take_snoc (t : ByteArray) (fr r : Nat) : t.data.toList.take fr ++ (t.extract fr (fr + r)).data.toList = t.data.toList.take (fr + r) := by
  have e : (t.extract fr (fr + r)).data.toList = (t.data.toList.drop fr).take r := by
    simp [List.take_drop]
  rw [e, ← List.take_add]
theorem take_last (t : ByteArray) (fr : Nat) (h : fr ≤ t.size) : t.data.toList.take fr ++ (t.extract fr t.size).data.toList = t.data.toList := by
  have e := take_snoc t fr (t.size - fr)
  rw [show fr + (t.size - fr) = t.size from by omega] at e
  rw [e]
  exact List.take_of_length_le (by simp)
theorem slice_str (t : ByteArray) (fr r : Nat) (w : World) (h : fr + r ≤ t.size) (_ht : t.size ≤ 4000) : (Instr.slice 9 (.string t) (some (.int .i64 fr)) (some (.int .i64 (fr + r))) none).run Tryd.prog w = .ok (.string (t.extract fr (fr + r))) w := by
  obtain ⟨q, hq, hqr⟩ : ∃ q, q = fr + r ∧ fr ≤ q := ⟨_, rfl, Nat.le_add_right _ _⟩
  rw [show (fr : Int) + r = (q : Int) from by omega, ← hq]
  rw [← hq] at h
  clear hq
  go_simp

set_option maxRecDepth 100000 in
set_option maxHeartbeats 1600000 in
theorem cut_any (t : ByteArray) (v : Value) (n : Nat) (w : World) (ht : t.size ≤ 4000) (hv : Nums w v n) (hn : n ≤ 1048576) :
    Calls Tryd.prog 15 #[.string t, v] w fun e w' => ∃ tv ps, e = .returned tv ∧ w'.ownsRow w.heap.size 9 1 tv ps.length (ps.map Value.string) ∧ joined ps = t.data.toList ∧ ps.length = n + 1 ∧ Fr No w w' := by
  obtain ⟨a, cap, rfl, hc⟩ := hv
  obtain ⟨i0, hi, hz0, hs1, hs2⟩ := info_parts info_string
  have HC := hide hc
  clear hc
  go_enter Tryd.func15, Tryd.ntmps15
  go_wp2
  go_loopw [5, 6, 7] (fun tv f i wr => ∃ (fr : Nat) (ps : List ByteArray), ps.length ≤ n ∧ i = .int .i64 (ps.length : Nat) ∧ f = .int .i64 (fr : Nat) ∧ fr ≤ t.size ∧ Hid (joined ps = t.data.toList.take fr) ∧ wr.ownsRow w.heap.size 9 1 tv ps.length (ps.map Value.string) ∧ Fr No w wr) (fun _ _ i _ => n - (intOf i).toNat)
  case atStart => exact ⟨0, [], Nat.zero_le _, rfl, rfl, Nat.zero_le _, rfl, srow_nil _ _, Fr.refl _ _⟩
  case round =>
    obtain ⟨fr, ps, hk, rfl, rfl, hfrt, HL, hrow, hfr⟩ := hrel
    obtain ⟨ao, cp, rfl⟩ := srow_form hrow
    have HROW := hide hrow
    clear hrow
    have hsz := hfr.size
    by_cases hkn : ps.length < n
    · obtain ⟨b, off, z, rfl, hbl, hcc, hz1, hz2⟩ := HC.out ps.length hkn
      have hcc := (hfr.cell (p := ⟨b, off + ps.length, none⟩) hbl (no_no _)).trans hcc
      have hpk := pick_wide z (t.size - fr + 1) wr hz1 hz2 (by omega) (by omega)
      rw [show ((t.size - fr + 1 : Nat) : Int) = (t.size : Int) - fr + 1 from by omega] at hpk
      have HPK := hide hpk
      clear hpk
      go_wp2_with fail
      refine HPK.out.mono ?_
      rintro e w' ⟨⟨r, hr, rfl⟩, hw⟩
      obtain rfl := hw.symm
      have hrt : fr + r ≤ t.size := by omega
      have HS := slice_str t fr r wr hrt ht
      go_wp2_with (at_builtin; refine wpList_append_lies _ rfl (.tmp 27) (.tmp 32) 34 rfl w.heap.size 9 i0 (.string ⟨#[]⟩) 1 16 Tryd.underlying34 hi hz0 hs1 hs2 rfl (by decide) (.slice ao ps.length cp) ps.length (ps.map Value.string) rfl ?hown ⟨wr.heap.size, 0, none⟩ 1 1 [.string (t.extract fr (fr + r))] rfl rfl ?hnews ?h1 (by decide) ?h63 ?hb ?hbase _ rfl ?hK)
      case hown => exact ownsRow_fr (S := No) HROW.out ((Fr.refl _ _).alloc _) (fun _ _ => no_no _)
      case hnews => first | exact (fun j u h => h) | intro j u hj; match j, hj with | 0, hj => simp at hj; subst hj; exact cell_of (alloc_at wr _) 0
      case h1 => first | rfl | (intro u hu; simp at hu; subst hu; rfl)
      case h63 => unfold maxLen; omega
      case hb => omega
      case hbase => first | omega | (simp; omega)
      case hK =>
        intro g cap5 w5 hown5 hgrow5 hat5 hlt5
        have hf5 : Fr No w w5 := (hfr.alloc _).grown hgrow5 (fun k hk2 hk3 => by have := srow_lt HROW.out hk2; omega)
        have HO5 := hide hown5
        clear hown5 hgrow5 hat5
        go_wp2_with fail
        refine ⟨⟨fr + r, ps ++ [t.extract fr (fr + r)], by rw [List.length_append]; exact hkn, by simp, by simp, hrt, ?_, ?_, hf5⟩, by simp [intOf]; omega⟩
        · unfold Hid
          rw [joined_snoc, HL.out]
          exact take_snoc t fr r
        · have := HO5.out; simpa using this
    · obtain rfl : ps.length = n := by omega
      go_wp2_with (at_builtin; refine wpList_append_lies _ rfl (.tmp 35) (.tmp 39) 34 rfl w.heap.size 9 i0 (.string ⟨#[]⟩) 1 16 Tryd.underlying34 hi hz0 hs1 hs2 rfl (by decide) (.slice ao ps.length cp) ps.length (ps.map Value.string) rfl ?hown ⟨wr.heap.size, 0, none⟩ 1 1 [.string (t.extract fr t.size)] rfl rfl ?hnews ?h1 (by decide) ?h63 ?hb ?hbase _ rfl ?hK)
      case hown => exact ownsRow_fr (S := No) HROW.out ((Fr.refl _ _).alloc _) (fun _ _ => no_no _)
      case hnews => first | exact (fun j u h => h) | intro j u hj; match j, hj with | 0, hj => simp at hj; subst hj; exact cell_of (alloc_at wr _) 0
      case h1 => first | rfl | (intro u hu; simp at hu; subst hu; rfl)
      case h63 => unfold maxLen; omega
      case hb => omega
      case hbase => first | omega | (simp; omega)
      case hK =>
        intro g cap5 w5 hown5 hgrow5 hat5 hlt5
        have hf5 : Fr No w w5 := (hfr.alloc _).grown hgrow5 (fun k hk2 hk3 => by have := srow_lt HROW.out hk2; omega)
        have HO5 := hide hown5
        clear hown5 hgrow5 hat5
        go_wp2_with fail
        go_ret
        refine ⟨_, ps ++ [t.extract fr t.size], rfl, ?_, ?_, by simp only [List.length_append, List.length_singleton], hf5⟩
        · have := HO5.out; simpa using this
        · rw [joined_snoc, HL.out]
          exact take_last t fr hfrt
end Go.Proofs.YtjjjlilflbddoaaDoor
namespace Go.Proofs.YtjjjlilflbddoaaDoor
open Go.RowKit

theorem Nums.fr {w w' : World} {v : Value} {n : Nat} (h : Nums w v n) (f : Fr No w w') : Nums w' v n := by
  obtain ⟨a, cap, e, hc⟩ := h
  refine ⟨a, cap, e, fun j hj => ?_⟩
  obtain ⟨b, off, z, e1, hb, hcc, h1, h2⟩ := hc j hj
  exact ⟨b, off, z, e1, Nat.lt_of_lt_of_le hb f.size, (f.cell (p := ⟨b, off + j, none⟩) hb (no_no _)).trans hcc, h1, h2⟩
theorem sp_lt {sp : Nat → Addr} {w : World} (h : Blk sp w) (k : Nat) (h3 : 3 ≤ k) (h8 : k ≤ 10) : (sp k).block < w.heap.size := by
  obtain ⟨c, t, hc⟩ := h k h3 h8
  exact lt_of hc
theorem keep_of {sp : Nat → Addr} {w w' : World} (hE : Env sp w) (hB : Blk sp w) (hP : Pow w) (f : Fr No w w') : Keep sp w w' :=
  ⟨hE.fr f (fun _ _ => no_no _), hB.fr f, hP.fr f (Nat.lt_of_lt_of_le (by decide) hE.size) (no_no _), f⟩

/-- Where the law stands ahead of piece j. -/
structure PcAt (sp : Nat → Addr) (B dcb tsb mb g cap lim : Nat) (ps : List ByteArray) (w : World) (s : Gz.Pc) (j : Nat) (K : List Nat) (wr : World) : Prop where
  good : s.Good lim (joined (ps.take j))
  len : s.out.length ≤ lim
  dec : DecAt sp B dcb tsb mb K s.x wr
  asked : s.x.tc.asked ≤ 32000 * j
  row : wr.ownsRow B 9 1 (.slice (some ⟨g, 0, none⟩) ps.length cap) ps.length (ps.map Value.string)
  gK : g ∈ K
  fr : Fr No w wr

theorem joined_take (ps : List ByteArray) (j : Nat) (h : j < ps.length) : joined (ps.take (j + 1)) = joined (ps.take j) ++ (ps.getD j ⟨#[]⟩).data.toList := by
  rw [List.take_succ_eq_append_getElem h, joined_snoc]
  simp [List.getD, h]
theorem joined_len (ps : List ByteArray) (j : Nat) : (joined (ps.take j)).length ≤ (joined ps).length := by
  have e : joined ps = joined (ps.take j) ++ joined (ps.drop j) := by
    unfold joined
    rw [← List.flatten_append, ← List.map_append, List.take_append_drop]
  rw [e, List.length_append]; omega
/-- A piece fed. -/
theorem PcAt.feed {sp : Nat → Addr} {B dcb tsb mb g cap lim : Nat} {ps : List ByteArray} {w : World} {s : Gz.Pc} {j : Nat} {K : List Nat} {wr : World} (h : PcAt sp B dcb tsb mb g cap lim ps w s j K wr)
    (hE : Env sp w) (hB : Blk sp w) (hP : Pow w) (hwB : w.heap.size ≤ B) (hj : j < ps.length) (hps : ps.length ≤ 1048577) (hl : (joined ps).length ≤ 4000) :
    Calls Tryd.prog 16 #[.pointer (some ⟨dcb, 0, none⟩), .string (ps.getD j ⟨#[]⟩)] wr fun e w' =>
      e = .returned (.tuple #[.string ⟨(s.x.feed (ps.getD j ⟨#[]⟩).data.toList).2.1.toArray⟩, .int .i64 ((s.x.feed (ps.getD j ⟨#[]⟩).data.toList).2.2 : Nat)]) ∧ (s.fine (ps.getD j ⟨#[]⟩).data.toList) ∧ (s.x.feed (ps.getD j ⟨#[]⟩).data.toList).2.1.length ≤ lim ∧
      ∃ K', PcAt sp B dcb tsb mb g cap lim ps w (s.next (ps.getD j ⟨#[]⟩).data.toList) (j + 1) K' w' := by
  have hk := keep_of hE hB hP h.fr
  have hlen : (joined (ps.take j) ++ (ps.getD j ⟨#[]⟩).data.toList).length ≤ 4000 := by
    rw [← joined_take ps j hj]
    exact Nat.le_trans (joined_len ps (j + 1)) hl
  have hgn := Gz.good_next h.good hlen
  have hfl := Gz.feed_len h.good hlen h.len
  have ha := h.asked
  refine (feed_any sp B dcb tsb mb K s.x wr (ps.getD j ⟨#[]⟩) _ rfl h.dec hk.2.1 (fun k h3 h8 => Nat.lt_of_lt_of_le (sp_lt hB k h3 h8) hwB) hk.2.2.1 (by omega)).mono ?_
  rintro e w' ⟨rfl, hf, K', hD, hG, hask⟩
  refine ⟨rfl, hgn.2, hfl.2, K', ?_, hfl.1, hD, ?_, ?_, hG.1 _ h.gK, ?_⟩
  · rw [joined_take ps j hj]; exact hgn.1
  · show (s.x.feed (ps.getD j ⟨#[]⟩).data.toList).1.tc.asked ≤ _
    omega
  · refine ownsRow_fr h.row hf (fun g' hg' e => e.2 ?_)
    have : g = g' := by simpa [Value.ownBlock] using hg'
    rw [← this]; exact h.gK
  · exact h.fr.past hf (fun k hk e => by have := e.1; omega)
end Go.Proofs.YtjjjlilflbddoaaDoor
namespace Go.Proofs.YtjjjlilflbddoaaDoor
open Go.RowKit

theorem srow_ways {w : World} {B0 B n : Nat} {v : Value} {xs : List Value} (h : w.ownsRow B0 9 1 v n xs) (hn : 0 < n) (hB : B ≤ B0) : ∃ g cap, v = .slice (some ⟨g, 0, none⟩) n cap ∧ B0 ≤ g ∧ g < w.heap.size ∧ w.ownsRow B 9 1 v n xs := by
  rcases h.2 with ⟨_, h0⟩ | ⟨g, cap, cur, e, hb, hh, r⟩
  · omega
  · exact ⟨g, cap, e, hb, lt_of hh, h.1, Or.inr ⟨g, cap, cur, e, Nat.le_trans hB hb, hh, r⟩⟩
theorem srow_cell {w : World} {B g cap : Nat} {ps : List ByteArray} (h : w.ownsRow B 9 1 (.slice (some ⟨g, 0, none⟩) ps.length cap) ps.length (ps.map Value.string)) (j : Nat) (hj : j < ps.length) : w.cell? ⟨g, j, none⟩ = some (.string (ps.getD j ⟨#[]⟩)) := by
  have := h.cellAt j (by omega)
  rw [this]
  simp [List.getD, hj]
theorem str_join (a b : List UInt8) : (⟨a.toArray⟩ : ByteArray) ++ ⟨b.toArray⟩ = ⟨(a ++ b).toArray⟩ := by
  apply ByteArray.ext
  simp

theorem pieces_start {sp : Nat → Addr} {n : Nat} {lim : Nat} {cache : Nat} {w w1 w2 w3 w4 : World} {tv : Value} {ps : List ByteArray}
    (hD : DecAt sp w1.heap.size (w1.heap.size + 2) (w1.heap.size + 1) w1.heap.size [] ((Gz.Dec.new cache).begin lim) w3) (f1 : Fr No w w1) (f2 : Fr No w1 w2) (f3 : Fr (One (w1.heap.size + 2)) w2 w3) (f4 : Fr No w3 w4)
    (hrow : w4.ownsRow w3.heap.size 9 1 tv ps.length (ps.map Value.string)) (hpl : ps.length = n + 1) :
    ∃ g cap K, tv = .slice (some ⟨g, 0, none⟩) ps.length cap ∧ PcAt sp w1.heap.size (w1.heap.size + 2) (w1.heap.size + 1) w1.heap.size g cap lim ps w ⟨(Gz.Dec.new cache).begin lim, [], 0⟩ 0 K w4 := by
  have s2 := f2.size
  have s3 := f3.size
  have s1 := f1.size
  obtain ⟨g, cap, e, hg, hgl, hrow2⟩ := srow_ways hrow (by omega) (show w1.heap.size ≤ w3.heap.size by omega)
  refine ⟨g, cap, [g] ++ [], e, ?_⟩
  refine ⟨?_, Nat.zero_le _, hD.still f4 (fun k hk => ?_), ?_, ?_, by simp, ?_⟩
  · rw [List.take_zero]; exact Gz.good_start _ lim
  · rw [List.mem_singleton] at hk; rw [hk]; exact ⟨hg, hgl⟩
  · show (Gz.Tc.new cache).asked ≤ _
    exact Nat.zero_le _
  · rw [← e]; exact hrow2
  · exact ((f1.past f2 (fun _ _ => no_no _)).past f3 (fun k hk e => by have e' : k = _ := e; omega)).past f4 (fun _ _ => no_no _)

theorem PcAt.fed {sp : Nat → Addr} {B dcb tsb mb g cap lim : Nat} {ps : List ByteArray} {w : World} {x : Gz.Dec} {out : List UInt8} {met j : Nat} {K : List Nat} {wr : World} (h : PcAt sp B dcb tsb mb g cap lim ps w ⟨x, out, met⟩ j K wr)
    (hE : Env sp w) (hB : Blk sp w) (hP : Pow w) (hwB : w.heap.size ≤ B) (hj : j < ps.length) (hps : ps.length ≤ 1048577) (hl : (joined ps).length ≤ 4000) {x' : Gz.Dec} {pc : List UInt8} {q : Nat} (hfd : x.feed (ps.getD j ⟨#[]⟩).data.toList = (x', pc, q)) :
    Calls Tryd.prog 16 #[.pointer (some ⟨dcb, 0, none⟩), .string (ps.getD j ⟨#[]⟩)] wr fun e w' =>
      e = .returned (.tuple #[.string ⟨pc.toArray⟩, .int .i64 (q : Nat)]) ∧ (met ≠ 0 → met ≠ 12 → pc = []) ∧ (met ≠ 0 → q = 12) ∧ pc.length ≤ lim ∧ out.length ≤ lim ∧
      ∃ K', PcAt sp B dcb tsb mb g cap lim ps w ⟨x', if met = 0 ∨ met = 12 then out ++ pc else out, if met = 0 then q else met⟩ (j + 1) K' w' := by
  refine (h.feed hE hB hP hwB hj hps hl).mono ?_
  rintro e w' ⟨rfl, hfn, hl2, K', hp⟩
  have hfd2 : (Gz.Pc.mk x out met).x.feed (ps.getD j ⟨#[]⟩).data.toList = (x', pc, q) := hfd
  unfold Gz.Pc.fine at hfn
  unfold Gz.Pc.next at hp
  rw [hfd2] at hfn hl2 hp ⊢
  exact ⟨rfl, hfn.1, hfn.2, hl2, h.len, K', hp⟩
theorem DecAt.db {sp : Nat → Addr} {B dcb tsb mb : Nat} {K : List Nat} {x : Gz.Dec} {w : World} (h : DecAt sp B dcb tsb mb K x w) : ∃ rv room, Db w dcb tsb rv room x.begun x.told := by
  cases hon : x.on with
  | false => obtain ⟨room, _, h⟩ := h.off hon; exact ⟨_, room, h⟩
  | true => obtain ⟨rb, s, mL, h, _⟩ := h.on hon; exact ⟨_, _, h⟩
/-- Behind the last piece: as Inflate told. -/
theorem PcAt.last {sp : Nat → Addr} {B dcb tsb mb g cap lim : Nat} {ps : List ByteArray} {w : World} {x : Gz.Dec} {out : List UInt8} {met : Nat} {K : List Nat} {wr : World} (h : PcAt sp B dcb tsb mb g cap lim ps w ⟨x, out, met⟩ ps.length K wr)
    {d : List UInt8} (hj : joined ps = d) (hl : d.length ≤ 4000) (hlim : lim ≤ 6000) {o : List UInt8} {c k : Nat} (hR : Gz.inflate d lim = (o, c, k)) :
    (k = 0 → out = o ∧ x.begun = c ∧ x.told = 0 ∧ (met = 0 ∨ met = 12)) ∧ (k = 2 → x.told = 2 ∧ met = 0 ∧ x.begun = 0) ∧ (k ≠ 0 → k ≠ 2 → x.told = k ∧ met = k ∧ x.begun = 0) := by
  have hg := h.good
  rw [List.take_length, hj] at hg
  have := Gz.good_last hg hl hlim
  rw [hR] at this
  exact this

set_option maxRecDepth 100000 in
set_option maxHeartbeats 4000000 in
theorem piecesLaw_any (sp : Nat → Addr) (t : ByteArray) (lim cache : Int) (v : Value) (n : Nat) (w : World) (hv : Nums w v n) (hn : n ≤ 1048576) (hE : Env sp w) (hB : Blk sp w) (hP : Pow w) :
    Calls Tryd.prog 5 #[.string t, .int .i64 lim, v, .int .i64 cache] w fun e w' => e = .returned (.bool true) ∧ Fr No w w' := by
  obtain ⟨o, c, k, hR⟩ : ∃ o c k, Gz.inflate t.data.toList lim = (o, c, k) := ⟨_, _, _, rfl⟩
  have htl : t.data.toList.length = t.size := by simp
  have R := hide hR
  have HV := hide hv
  clear hR hv
  have HE := hide hE
  have HB := hide hB
  have HP := hide hP
  clear hE hB hP
  go_enter Tryd.func5, Tryd.ntmps5
  go_wp2_with fail
  refine (infl_keep sp t lim o c k w w ⟨HE.out, HB.out, HP.out, Fr.refl _ _⟩ R.out).mono ?_
  rintro e w1 ⟨rfl, hk1, F⟩
  have H1 := hide hk1
  clear hk1
  have FF := hide F
  clear F
  go_wp2_with fail
  refine (newD_any sp cache w1 H1.out.1).mono ?_
  rintro e w2 ⟨rfl, hD2, hf2, hs2⟩
  have HD2 := hide hD2
  have HF2 := hide hf2
  clear hD2 hf2 hs2
  have hfw2 : Fr No w w2 := H1.out.2.2.2.past HF2.out (fun _ _ => no_no _)
  by_cases hl : lim < 0 ∨ 6000 < lim
  · have hres : (k = 1 ∨ k = 11) ∧ o = [] := by
      have h := R.out
      unfold Gz.inflate at h
      rw [if_pos hl] at h
      split at h
      · injection h with a b; injection b with b d; exact ⟨.inl d.symm, a.symm⟩
      · injection h with a b; injection b with b d; exact ⟨.inr d.symm, a.symm⟩
    obtain ⟨hk, rfl⟩ := hres
    have hgt : ¬ lim < 0 → 6000 < lim := fun h => by omega
    go_wp2_with fail
    refine (begin_no _ lim _ hl).mono ?_
    rintro e w3 ⟨rfl, hw⟩
    obtain rfl := hw.symm
    have HFW := hide hfw2
    clear hfw2
    rcases hk with rfl | rfl
    · rcases Int.lt_or_le lim 0 with h0 | h0
      · go_wp2_with (go_at_call 11; refine (num_any _ _).mono ?_; rintro e w'' ⟨rfl, rfl⟩)
        go_ret
        exact ⟨rfl, HFW.out⟩
      · have h6 : 6000 < lim := by omega
        go_wp2_with (go_at_call 11; refine (num_any _ _).mono ?_; rintro e w'' ⟨rfl, rfl⟩)
        go_ret
        exact ⟨rfl, HFW.out⟩
    · rcases Int.lt_or_le lim 0 with h0 | h0
      · go_wp2_with (go_at_call 11; refine (num_any _ _).mono ?_; rintro e w'' ⟨rfl, rfl⟩)
        go_ret
        exact ⟨rfl, HFW.out⟩
      · have h6 : 6000 < lim := by omega
        go_wp2_with (go_at_call 11; refine (num_any _ _).mono ?_; rintro e w'' ⟨rfl, rfl⟩)
        go_ret
        exact ⟨rfl, HFW.out⟩
  · obtain ⟨l, rfl⟩ : ∃ l : Nat, lim = l := ⟨lim.toNat, by omega⟩
    have hl6 : l ≤ 6000 := by omega
    have hl0 : ¬ (l : Int) < 0 := by omega
    have hl60 : ¬ 6000 < (l : Int) := by omega
    clear hl
    go_wp2_with fail
    refine (begin_yes sp _ _ _ _ _ _ l _ hl6 HD2.out).mono ?_
    rintro e w3 ⟨rfl, hD3, hf3⟩
    have HD3 := hide hD3
    have HF3 := hide hf3
    clear hD3 hf3
    have hfw3 : Fr No w w3 := hfw2.past HF3.out (fun k hk e => by have e' : k = _ := e; have := H1.out.2.2.2.size; omega)
    have HFW := hide hfw3
    clear hfw3 hfw2
    by_cases h4 : 4000 < t.size
    · have hres : k = 1 ∧ o = [] := by
        have h := R.out
        unfold Gz.inflate at h
        rw [if_pos (by omega)] at h
        injection h with a b; injection b with b d; exact ⟨d.symm, a.symm⟩
      obtain ⟨rfl, rfl⟩ := hres
      go_wp2_with (go_at_call 11; refine (num_any _ _).mono ?_; rintro e w'' ⟨rfl, rfl⟩)
      go_ret
      refine ⟨?_, HFW.out⟩
      show Ending.returned (Value.bool (!decide ((l : Int) < 0) && !decide (6000 < (l : Int)))) = _
      rw [decide_eq_false (show ¬ (l : Int) < 0 by omega), decide_eq_false (show ¬ 6000 < (l : Int) by omega)]
      rfl
    · have hk8 : k = 0 ∨ (2 ≤ k ∧ k ≤ 8) := by
        have h := R.out
        have f := FF.out (by omega) (by omega) (by omega)
        unfold Gz.inflate at h
        rw [if_neg (by omega), if_neg (by omega)] at h
        cases hr : Gz.read t.data.toList (l : Int).toNat with
        | ok x =>
          rw [hr] at h
          injection h with a b; injection b with b d; exact .inl d.symm
        | error k' =>
          rw [hr] at h f
          injection h with a b; injection b with b d; subst d; exact .inr f
      have hk1 : ((k : Int) == 1) = false := beq_eq_false_iff_ne.2 (by omega)
      have hk11 : ((k : Int) == 11) = false := beq_eq_false_iff_ne.2 (by omega)
      go_wp2_with (go_at_call 11; refine (num_any _ _).mono ?_; rintro e w'' ⟨rfl, rfl⟩)
      refine (cut_any t v n _ (by omega) (HV.out.fr HFW.out) hn).mono ?_
      rintro e w4 ⟨tv, ps, rfl, hrow, hjoin, hpl, hf4⟩
      obtain ⟨g, cap, K0, rfl, hpc⟩ := pieces_start HD3.out H1.out.2.2.2 HF2.out HF3.out hf4 hrow hpl
      have HPC := hide hpc
      have HJ := hide hjoin
      have hps : ps.length ≤ 1048577 := by omega
      have HPL := hide hpl
      have hwB := H1.out.2.2.2.size
      have hjl : (joined ps).length ≤ 4000 := by rw [hjoin]; omega
      have HJL := hide hjl
      clear hjl hpc hjoin hpl hf4 hrow
      go_wp2
      go_loopw [15, 16, 17] (fun ov mv iv wr => ∃ (x : Gz.Dec) (out : List UInt8) (met j : Nat) (K : List Nat), j ≤ ps.length ∧ ov = .string ⟨out.toArray⟩ ∧ mv = .int .i64 (met : Nat) ∧ iv = .int .i64 (j : Nat) ∧ Hid (PcAt sp w1.heap.size (w1.heap.size + 2) (w1.heap.size + 1) w1.heap.size g cap l ps w ⟨x, out, met⟩ j K wr)) (fun _ _ iv _ => ps.length - (intOf iv).toNat)
      case atStart => exact ⟨_, [], 0, 0, K0, Nat.zero_le _, rfl, rfl, rfl, HPC.out⟩
      case round =>
        obtain ⟨x, out, met, j, K, hj, rfl, rfl, rfl, HS⟩ := hrel
        by_cases hjn : j < ps.length
        · have hcc := srow_cell HS.out.row j hjn
          obtain ⟨x', pc, q, hfd⟩ : ∃ x' pc q, x.feed (ps.getD j ⟨#[]⟩).data.toList = (x', pc, q) := ⟨_, _, _, rfl⟩
          have hcall := HS.out.fed HE.out HB.out HP.out hwB hjn hps HJL.out hfd
          obtain ⟨p, hp⟩ : ∃ p, p = ps.getD j ⟨#[]⟩ := ⟨_, rfl⟩
          rw [← hp] at hcc hcall
          clear hp hfd
          have HCALL := hide hcall
          clear hcall
          go_wp2_with fail
          refine HCALL.out.mono ?_
          rintro e w5 ⟨rfl, hq1, hq2, hpl, hol, K', hpc⟩
          have HN := hide hpc
          clear hpc
          have so : (⟨out.toArray⟩ : ByteArray).size = out.length := by simp [ByteArray.size]
          have sp2 : (⟨pc.toArray⟩ : ByteArray).size = pc.length := by simp [ByteArray.size]
          have hadd : ∀ w : World, (Op.stringOp .add ⟨out.toArray⟩ ⟨pc.toArray⟩).run Tryd.prog w = .ok (.string ⟨(out ++ pc).toArray⟩) w := fun w => by
            rw [← str_join]; exact run_string_add_sum w _ _ (by omega)
          clear so sp2
          by_cases hm0 : met = 0
          · subst hm0
            clear hq1 hq2
            rw [if_pos (.inl rfl), if_pos rfl] at HN
            go_wp2_with (go_at_call 11; refine (num_any _ _).mono ?_; rintro e w'' ⟨rfl, rfl⟩)
            refine ⟨⟨x', _, _, j + 1, K', by omega, rfl, rfl, by simp, HN⟩, by simp [intOf]; omega⟩
          · obtain rfl := hq2 hm0
            by_cases hm12 : met = 12
            · subst hm12
              clear hq1 hq2
              rw [if_pos (.inr rfl), if_neg (by decide)] at HN
              go_wp2_with (go_at_call 11; refine (num_any _ _).mono ?_; rintro e w'' ⟨rfl, rfl⟩)
              refine ⟨⟨x', _, _, j + 1, K', by omega, rfl, rfl, by simp, HN⟩, by simp [intOf]; omega⟩
            · obtain rfl := hq1 hm0 hm12
              rw [if_neg (by omega), if_neg hm0] at HN
              have hi0 : ((met : Int) == 0) = false := beq_eq_false_iff_ne.2 (by omega)
              have hi12 : ((met : Int) == 12) = false := beq_eq_false_iff_ne.2 (by omega)
              clear hq1 hq2 hadd
              go_wp2_with (go_at_call 11; refine (num_any _ _).mono ?_; rintro e w'' ⟨rfl, rfl⟩)
              refine ⟨⟨x', _, _, j + 1, K', by omega, rfl, rfl, by simp, HN⟩, by simp [intOf]; omega⟩
        · obtain rfl : j = ps.length := by omega
          have hlast := HS.out.last HJ.out (by omega) hl6 R.out
          obtain ⟨rv, room, hdb⟩ := HS.out.dec.db
          have HFR := hide HS.out.fr
          have HEND := hide (end_any _ _ _ _ _ _ _ hdb)
          clear hdb
          obtain ⟨l0, l2, lk⟩ := hlast
          by_cases hk0 : k = 0
          · obtain ⟨e1, e2, e3, hm⟩ := l0 hk0
            rw [e2, e3] at HEND
            subst hk0 e1
            clear l0 l2 lk e2 e3 hk8 hk1 hk11
            go_wp2_with fail
            refine HEND.out.mono ?_
            rintro e w6 ⟨rfl, hf6⟩
            have HF6 := hide (HFR.out.past hf6 (fun _ _ => no_no _))
            clear hf6
            rcases hm with rfl | rfl
            · go_wp2_with (go_at_call 11; refine (num_any _ _).mono ?_; rintro e w'' ⟨rfl, rfl⟩)
              go_ret
              exact ⟨rfl, HF6.out⟩
            · go_wp2_with (go_at_call 11; refine (num_any _ _).mono ?_; rintro e w'' ⟨rfl, rfl⟩)
              go_ret
              exact ⟨rfl, HF6.out⟩
          · by_cases hk2 : k = 2
            · obtain ⟨e1, e2, e3⟩ := l2 hk2
              rw [e1, e3] at HEND
              subst hk2 e2
              clear l0 l2 lk e1 e3 hk8 hk1 hk11 hk0
              go_wp2_with fail
              refine HEND.out.mono ?_
              rintro e w6 ⟨rfl, hf6⟩
              have HF6 := hide (HFR.out.past hf6 (fun _ _ => no_no _))
              clear hf6
              go_wp2_with (go_at_call 11; refine (num_any _ _).mono ?_; rintro e w'' ⟨rfl, rfl⟩)
              go_ret
              exact ⟨rfl, HF6.out⟩
            · obtain ⟨e1, e2, e3⟩ := lk hk0 hk2
              rw [e1, e3] at HEND
              subst e2
              have hq0 : ((met : Int) == 0) = false := beq_eq_false_iff_ne.2 (by omega)
              have hq2 : ((met : Int) == 2) = false := beq_eq_false_iff_ne.2 (by omega)
              clear l0 l2 lk e1 e3 hk8 hk1 hk11 hk0 hk2
              go_wp2_with fail
              refine HEND.out.mono ?_
              rintro e w6 ⟨rfl, hf6⟩
              have HF6 := hide (HFR.out.past hf6 (fun _ _ => no_no _))
              clear hf6
              go_wp2_with (go_at_call 11; refine (num_any _ _).mono ?_; rintro e w'' ⟨rfl, rfl⟩)
              go_ret
              exact ⟨rfl, HF6.out⟩
end Go.Proofs.YtjjjlilflbddoaaDoor
namespace Go.Proofs.YtjjjlilflbddoaaDoor
open Go.RowKit

/-- A script that was handed in. -/
def Script (w : World) (v : Value) (n : Nat) : Prop := ∃ a cap, v = .slice a n cap ∧ ∀ j, j < n → ∃ (b off : Nat) (kd wd nn : Int) (t : ByteArray), a = some ⟨b, off, none⟩ ∧ b < w.heap.size ∧
  w.cell? ⟨b, off + j * 4, none⟩ = some (.int .i64 kd) ∧ w.cell? ⟨b, off + j * 4 + 1, none⟩ = some (.int .i64 wd) ∧ w.cell? ⟨b, off + j * 4 + 2, none⟩ = some (.int .i64 nn) ∧ w.cell? ⟨b, off + j * 4 + 3, none⟩ = some (.string t)

/-- Where the law stands ahead of the script's part j. -/
structure UAt (sp : Nat → Addr) (B : Nat) (x y : Gz.Dec) (w : World) (j : Nat) (wr : World) : Prop where
  both : Both sp B (B + 2) (B + 1) B (B + 3) (B + 3 + 2) (B + 3 + 1) (B + 3) [] x y wr
  alike : Gz.Alike x y
  a1 : x.tc.asked ≤ 32000 * j
  a2 : y.tc.asked ≤ 32000 * j
  fr : Fr No w wr

theorem new_two (sp : Nat → Addr) (c1 c2 : Nat) (w w1 w2 : World) (h1 : DecAt sp w.heap.size (w.heap.size + 2) (w.heap.size + 1) w.heap.size [] (Gz.Dec.new c1) w1) (s1 : w1.heap.size = w.heap.size + 3) (f1 : Fr No w w1)
    (h2 : DecAt sp w1.heap.size (w1.heap.size + 2) (w1.heap.size + 1) w1.heap.size [] (Gz.Dec.new c2) w2) (f2 : Fr No w1 w2) : UAt sp w.heap.size (Gz.Dec.new c1) (Gz.Dec.new c2) w 0 w2 := by
  rw [s1] at h2
  obtain ⟨h1', e1⟩ := h1.beside f2 (fun _ _ => no_no _) (fun _ _ => no_no _) (fun _ _ => no_no _)
  refine ⟨⟨⟨_, h1'⟩, ⟨_, h2⟩, fun k a b => ?_, fun k hk => by simp at hk⟩, Gz.Alike.new _ _, Nat.zero_le _, Nat.zero_le _, f1.past f2 (fun _ _ => no_no _)⟩
  have := (h1.mu ((e1 k).1 a)).2.2.1
  have := (h2.mu b).2.1
  omega

theorem same_cell {Z : List Nat} {w w' : World} (h : SameAt Z w w') {b : Nat} (hb : b ∈ Z) (i : Nat) : w'.cell? ⟨b, i, none⟩ = w.cell? ⟨b, i, none⟩ := World.cell?_of_block (h b hb)
theorem Both.bare {sp : Nat → Addr} {B1 d1 t1 m1 B2 d2 t2 m2 : Nat} {Z : List Nat} {x y : Gz.Dec} {w : World} (h : Both sp B1 d1 t1 m1 B2 d2 t2 m2 Z x y w) : Both sp B1 d1 t1 m1 B2 d2 t2 m2 [] x y w := ⟨h.one, h.two, h.apart, fun k hk => by simp at hk⟩
theorem UAt.up {sp : Nat → Addr} {B : Nat} {x y : Gz.Dec} {w wr w' : World} {j : Nat} {Z : List Nat} (hb : Both sp B (B + 2) (B + 1) B (B + 3) (B + 3 + 2) (B + 3 + 1) (B + 3) Z x y w') (hl : Gz.Alike x y) (h1 : x.tc.asked ≤ 32000 * (j + 1)) (h2 : y.tc.asked ≤ 32000 * (j + 1)) (hw : Fr No w wr) (f : Fr (fun k => B ≤ k) wr w') (hB : w.heap.size ≤ B) : UAt sp B x y w (j + 1) w' :=
  ⟨hb.bare, hl, h1, h2, hw.past f (fun k hk e => by have e' : B ≤ k := e; omega)⟩
/-- The part of the script at hand, in a block of its own. -/
def Held (w : World) (ob : Nat) (kd wd nn : Int) (t : ByteArray) : Prop := w.heap[ob]? = some (.cells #[.int .i64 kd, .int .i64 wd, .int .i64 nn, .string t] 43 (0, 0))

set_option maxRecDepth 100000 in
set_option maxHeartbeats 4000000 in
theorem unseenLaw_any (sp : Nat → Addr) (c1 c2 : Int) (v : Value) (n : Nat) (w : World) (hv : Script w v n) (hn : n ≤ 4398046511104) (hE : Env sp w) (hB : Blk sp w) (hP : Pow w) :
    Calls Tryd.prog 6 #[.int .i64 c1, .int .i64 c2, v] w fun e w' => e = .returned (.bool true) ∧ Fr No w w' := by
  obtain ⟨a, cap, rfl, hc⟩ := hv
  have HC := hide hc
  clear hc
  have HE := hide hE
  have HB := hide hB
  have HP := hide hP
  clear hE hB hP
  go_enter Tryd.func6, Tryd.ntmps6
  go_wp2_with fail
  refine (newD_any sp c1 w HE.out).mono ?_
  rintro e w1 ⟨rfl, hD1, hf1, hs1⟩
  have HD1 := hide hD1
  have HF1 := hide hf1
  have HS1 := hide hs1
  clear hD1 hf1 hs1
  go_wp2_with fail
  refine (newD_any sp c2 w1 (HE.out.fr HF1.out (fun _ _ => no_no _))).mono ?_
  rintro e w2 ⟨rfl, hD2, hf2, hs2⟩
  have HU := hide (new_two sp _ _ w w1 w2 HD1.out HS1.out HF1.out hD2 hf2)
  clear hD2 hf2 hs2
  rw [HS1.out]
  go_wp2
  go_loopw [9] (fun iv wr => ∃ (x y : Gz.Dec) (j : Nat), j ≤ n ∧ iv = .int .i64 (j : Nat) ∧ Hid (UAt sp w.heap.size x y w j wr)) (fun iv _ => n - (intOf iv).toNat)
  case atStart => exact ⟨_, _, 0, Nat.zero_le _, rfl, HU.out⟩
  case round =>
    obtain ⟨x, y, j, hj, rfl, HR⟩ := hrel
    by_cases hjn : j < n
    · obtain ⟨b, off, kd, wd, nn, t, rfl, hbl, q0, q1, q2, q3⟩ := HC.out j hjn
      have q0 := (HR.out.fr.cell (p := ⟨b, off + j * 4, none⟩) hbl (no_no _)).trans q0
      have q1 := (HR.out.fr.cell (p := ⟨b, off + j * 4 + 1, none⟩) hbl (no_no _)).trans q1
      have q2 := (HR.out.fr.cell (p := ⟨b, off + j * 4 + 2, none⟩) hbl (no_no _)).trans q2
      have q3 := (HR.out.fr.cell (p := ⟨b, off + j * 4 + 3, none⟩) hbl (no_no _)).trans q3
      have HBT := hide (HR.out.both.still (G := [wr.heap.size]) ((Fr.refl No wr).alloc (.cells #[.int .i64 kd, .int .i64 wd, .int .i64 nn, .string t] 43)) (fun g hg => by rw [List.mem_singleton] at hg; subst hg; simp))
      have HFA := hide (HR.out.fr.alloc (.cells #[.int .i64 kd, .int .i64 wd, .int .i64 nn, .string t] 43))
      by_cases k1 : kd = 1
      · subst k1
        by_cases hl : nn < 0 ∨ 6000 < nn
        · go_wp2_with fail
          refine (begin_no _ nn _ hl).mono ?_
          rintro e w3 ⟨rfl, hw⟩
          obtain rfl := hw.symm
          go_wp2_with fail
          refine (begin_no _ nn _ hl).mono ?_
          rintro e w3 ⟨rfl, hw⟩
          obtain rfl := hw.symm
          rcases hl with hl | hl
          · have hg1 : decide (0 ≤ nn) = false := decide_eq_false (by omega)
            go_wp2_with fail
            go_quiet (first | (go_at_call 11; exact Calls.quiet_of_same (num_any _ _)))
            go_wp2
            refine ⟨⟨x, y, j + 1, by omega, by simp, UAt.up (HBT.out.still (G := []) ((Fr.refl _ _).drewN _) (fun g hg => by simp at hg)) HR.out.alike (by have := HR.out.a1; omega) (by have := HR.out.a2; omega) HFA.out ((Fr.refl _ _).drewN _) (Nat.le_refl _)⟩, by simp [intOf]; omega⟩
          · have hg1 : decide (0 ≤ nn) = true := decide_eq_true (by omega)
            have hg2 : decide (nn ≤ 6000) = false := decide_eq_false (by omega)
            go_wp2_with fail
            go_quiet (first | (go_at_call 11; exact Calls.quiet_of_same (num_any _ _)))
            go_wp2
            refine ⟨⟨x, y, j + 1, by omega, by simp, UAt.up (HBT.out.still (G := []) ((Fr.refl _ _).drewN _) (fun g hg => by simp at hg)) HR.out.alike (by have := HR.out.a1; omega) (by have := HR.out.a2; omega) HFA.out ((Fr.refl _ _).drewN _) (Nat.le_refl _)⟩, by simp [intOf]; omega⟩
        · obtain ⟨l, rfl⟩ : ∃ l : Nat, nn = l := ⟨nn.toNat, by omega⟩
          have hl6 : l ≤ 6000 := by omega
          clear hl
          go_wp2_with fail
          refine (HBT.out.begin l hl6).mono ?_
          rintro e w3 ⟨rfl, hL1⟩
          have c2 : w3.cell? ⟨wr.heap.size, 2, none⟩ = some (.int .i64 l) := by rw [same_cell hL1.same (by simp) 2, cell_of (alloc_at wr _)]; rfl
          have HL1 := hide hL1
          clear hL1
          go_wp2_with fail
          refine (HL1.out.both.swap.begin l hl6).mono ?_
          rintro e w4 ⟨rfl, hL2⟩
          have c2 : w4.cell? ⟨wr.heap.size, 2, none⟩ = some (.int .i64 l) := by rw [same_cell hL2.same (by simp) 2]; exact c2
          have HL2 := hide hL2
          clear hL2
          have hg1 : decide (0 ≤ (l : Int)) = true := decide_eq_true (by omega)
          have hg2 : decide ((l : Int) ≤ 6000) = true := decide_eq_true (by omega)
          go_wp2_with fail
          go_quiet (first | (go_at_call 11; exact Calls.quiet_of_same (num_any _ _)))
          go_wp2
          refine ⟨⟨x.begin l, y.begin l, j + 1, by omega, by simp, UAt.up (HL2.out.both.swap.still (G := []) ((Fr.refl _ _).drewN _) (fun g hg => by simp at hg)) (Gz.Alike.begin x y l) (by have := HR.out.a1; show x.tc.asked ≤ _; omega) (by have := HR.out.a2; show y.tc.asked ≤ _; omega) HFA.out ((HL1.out.fr.trans (HL2.out.fr.mono (fun k _ e => by have e' : w.heap.size + 3 ≤ k := e; show w.heap.size ≤ k; omega))).drewN _) (Nat.le_refl _)⟩, by simp [intOf]; omega⟩
      · have k1' : (kd == 1) = false := beq_eq_false_iff_ne.2 k1
        by_cases k2 : kd = 2
        · subst k2
          obtain ⟨x', pc, q, hfx⟩ : ∃ x' pc q, x.feed t.data.toList = (x', pc, q) := ⟨_, _, _, rfl⟩
          obtain ⟨y', pc2, q2, hfy⟩ : ∃ x' pc q, y.feed t.data.toList = (x', pc, q) := ⟨_, _, _, rfl⟩
          have hal := HR.out.alike.feed t.data.toList
          rw [hfx, hfy] at hal
          obtain ⟨hal, he⟩ := hal
          obtain ⟨rfl, rfl⟩ : pc = pc2 ∧ q = q2 := by injection he with a b; exact ⟨a, b⟩
          have HAL := hide hal
          clear hal he
          have ha1 := HR.out.a1
          have ha2 := HR.out.a2
          have k0 := keep_of HE.out HB.out HP.out HFA.out
          have c1 := HBT.out.feed t k0.2.1 (fun k h3 h8 => sp_lt HB.out k h3 h8) k0.2.2.1 (by omega)
          rw [hfx] at c1
          have HC1 := hide c1
          clear c1 k0 k1 k1'
          go_wp2_with fail
          refine HC1.out.mono ?_
          rintro e w3 ⟨rfl, hL1, hb1⟩
          have q3' : w3.cell? ⟨wr.heap.size, 3, none⟩ = some (.string t) := by rw [same_cell hL1.same (by simp) 3, cell_of (alloc_at wr _)]; rfl
          have hfw3 : Fr No w w3 := HFA.out.past hL1.fr (fun k hk e => by have e' : w.heap.size ≤ k := e; omega)
          have k0 := keep_of HE.out HB.out HP.out hfw3
          have c2 := hL1.both.swap.feed t k0.2.1 (fun k h3 h8 => by have := sp_lt HB.out k h3 h8; omega) k0.2.2.1 (by omega)
          rw [hfy] at c2
          have HC2 := hide c2
          have HL1 := hide hL1
          have HF3 := hide hfw3
          have HB1 := hide hb1
          clear c2 k0 hL1 hfw3 hb1
          go_wp2_with fail
          refine HC2.out.mono ?_
          rintro e w4 ⟨rfl, hL2, hb2⟩
          have HL2 := hide hL2
          have HB2 := hide hb2
          clear hL2 hb2
          go_wp2_with (go_at_call 11; refine (num_any _ _).mono ?_; rintro e w'' ⟨rfl, rfl⟩)
          refine ⟨⟨x', y', j + 1, by omega, by simp, UAt.up HL2.out.both.swap HAL.out (by have := HB1.out; omega) (by have := HB2.out; omega) HF3.out (HL2.out.fr.mono (fun k _ e => by have e' : w.heap.size + 3 ≤ k := e; show w.heap.size ≤ k; omega)) (Nat.le_refl _)⟩, by simp [intOf]; omega⟩
        · have k2' : (kd == 2) = false := beq_eq_false_iff_ne.2 k2
          by_cases k3 : kd = 3
          · subst k3
            obtain ⟨K1, hx1⟩ := HBT.out.one
            obtain ⟨rv, room, hdb⟩ := hx1.db
            have HEND := hide (end_any _ _ _ _ _ _ _ hdb)
            have hal := HR.out.alike
            clear hx1 hdb k1 k1' k2 k2'
            go_wp2_with fail
            refine HEND.out.mono ?_
            rintro e w3 ⟨rfl, hf3⟩
            have hb3 := HBT.out.still (G := []) hf3 (fun g hg => by simp at hg)
            obtain ⟨K2, hy2⟩ := hb3.two
            obtain ⟨rv2, room2, hdb2⟩ := hy2.db
            have hend2 := end_any _ _ _ _ _ _ _ hdb2
            rw [← hal.begun, ← hal.told] at hend2
            have HEND2 := hide hend2
            have HB3 := hide hb3
            have HF3 := hide hf3
            have HAL := hide hal
            clear hy2 hdb2 hend2 hb3 hf3 hal
            go_wp2_with fail
            refine HEND2.out.mono ?_
            rintro e w4 ⟨rfl, hf4⟩
            have HB4 := hide (HB3.out.still (G := []) hf4 (fun g hg => by simp at hg))
            have HF4 := hide (HFA.out.past (HF3.out.past hf4 (fun _ _ => no_no _)) (fun _ _ => no_no _))
            clear hf4
            go_wp2_with (go_at_call 11; refine (num_any _ _).mono ?_; rintro e w'' ⟨rfl, rfl⟩)
            refine ⟨⟨x, y, j + 1, by omega, by simp, UAt.up HB4.out HAL.out (by have := HR.out.a1; omega) (by have := HR.out.a2; omega) HF4.out (Fr.refl _ _) (Nat.le_refl _)⟩, by simp [intOf]; omega⟩
          · have k3' : (kd == 3) = false := beq_eq_false_iff_ne.2 k3
            by_cases k5 : kd = 5
            · subst k5
              clear k1 k1' k2 k2' k3 k3'
              go_wp2_with fail
              refine HBT.out.swap.drop.mono ?_
              rintro e w3 ⟨rfl, hL1⟩
              have HL1 := hide hL1
              clear hL1
              go_wp2
              refine ⟨⟨x, { y with tc := y.tc.drop }, j + 1, by omega, by simp, UAt.up HL1.out.both.swap HR.out.alike.drop (by have := HR.out.a1; omega) (by have := HR.out.a2; show y.tc.asked ≤ _; omega) HFA.out (HL1.out.fr.mono (fun k _ e => by have e' : w.heap.size + 3 ≤ k := e; show w.heap.size ≤ k; omega)) (Nat.le_refl _)⟩, by simp [intOf]; omega⟩
            · have k5' : (kd == 5) = false := beq_eq_false_iff_ne.2 k5
              clear k1 k2 k3 k5
              go_wp2
              refine ⟨⟨x, y, j + 1, by omega, by simp, UAt.up HBT.out HR.out.alike (by have := HR.out.a1; omega) (by have := HR.out.a2; omega) HFA.out (Fr.refl _ _) (Nat.le_refl _)⟩, by simp [intOf]; omega⟩
    · obtain ⟨K1, hx1⟩ := HR.out.both.one
      obtain ⟨rv, room, hdb⟩ := hx1.db
      have HM := hide (made_any _ _ _ _ _ _ _ _ _ _ _ hdb hx1.tabs.blk)
      have HEV := hide (HE.out.fr HR.out.fr (fun _ _ => no_no _))
      have HFR := hide HR.out.fr
      obtain ⟨md, hmd⟩ : ∃ md, md = x.tc.made := ⟨_, rfl⟩
      rw [← hmd] at HM
      clear hx1 hdb hmd
      have hmd0 : (0 : Int) ≤ md := by omega
      go_wp2_with fail
      refine HM.out.mono ?_
      rintro e w3 ⟨rfl, hw⟩
      obtain rfl := hw.symm
      go_wp2_with fail
      refine (newD_any sp 0 _ HEV.out).mono ?_
      rintro e w4 ⟨rfl, hD4, hf4, hs4⟩
      obtain ⟨rv4, room4, hdb4⟩ := hD4.db
      have HEND := hide (end_any _ _ _ _ _ _ _ hdb4)
      have HF4 := hide (HFR.out.past hf4 (fun _ _ => no_no _))
      clear hD4 hf4 hs4 hdb4
      go_wp2_with fail
      refine HEND.out.mono ?_
      rintro e w5 ⟨rfl, hf5⟩
      have HF5 := hide (HF4.out.past hf5 (fun _ _ => no_no _))
      clear hf5
      have e1 : (Gz.Dec.new (clampN 0)).begun = 0 := rfl
      have e2 : (Gz.Dec.new (clampN 0)).told = 12 := rfl
      go_wp2_with (go_at_call 11; refine (num_any _ _).mono ?_; rintro e w'' ⟨rfl, rfl⟩)
      go_ret
      refine ⟨?_, HF5.out⟩
      first | rfl | (simp [hmd0]; done)
end Go.Proofs.YtjjjlilflbddoaaDoor
