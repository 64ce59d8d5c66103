import Derived.Test.YtjjjlilflbddoaaGreatDoorGPkW
import Derived.Test.YtjjjlilflbddoaaGreatDoorGPkC
import Derived.Test.YtjjjlilflbddoaaGreatDoorGPkA
namespace Go.Proofs.YtjjjlilflbddoaaGreatDoor
open Go.RowKit

theorem wand_one (a : Nat) : bits BinOp.and IntKind.i64 (a : Int) 1 = ((a % 2 : Nat) : Int) := by
  have h : bits BinOp.and IntKind.i64 (a : Int) 1 = IntKind.i64.wrap ((BitVec.ofInt 64 (a : Int) &&& BitVec.ofInt 64 1).toNat : Int) := rfl
  have h2 : (BitVec.ofInt 64 (a : Int) &&& BitVec.ofInt 64 1).toNat = a % 2 := by
    rw [BitVec.toNat_and]
    show (BitVec.ofInt 64 (a : Int)).toNat &&& 1 = _
    rw [Nat.and_one_is_mod]
    have : (BitVec.ofInt 64 (a : Int)).toNat = a % 2 ^ 64 := by simp
    rw [this]
    omega
  rw [h, h2, IntKind.wrap_i64]
  omega
section
variable {B wb : Nat} {K : List Nat} {bs : List Nat} {w w' : World} {dv : Value}
theorem Wr.same (h : Wr B wb K bs w dv) {cs : List Nat} (e : cs = bs) : Wr B wb K cs w dv := by rw [e]; exact h
end

set_option maxRecDepth 100000 in
set_option maxHeartbeats 1600000 in
theorem wnumber_any (B wb : Nat) (K : List Nat) (bs : List Nat) (v n : Nat) (w : World) (dv : Value) (h : Wr B wb K bs w dv) (hn : n ≤ 40) (hl : bs.length + n ≤ 1000000) :
    Calls Tryz.prog 46 #[.pointer (some ⟨wb, 0, none⟩), .int .i64 v, .int .i64 n] w (WrP B wb K (bs ++ Pk.numBits v n) w) := by
  have H := hide h
  clear h
  go_enter Tryz.func46, Tryz.ntmps46
  go_wp2
  go_loopw [8] (fun iv wr => ∃ k : Nat, k ≤ n ∧ iv = .int .i64 k ∧ Hid (∃ dv, Wr B wb K (bs ++ Pk.numBits v k) wr dv) ∧ Hid (Fr (Own B K) w wr)) (fun iv _ => n - (intOf iv).toNat)
  case atStart => exact ⟨0, Nat.zero_le _, rfl, ⟨dv, H.out.same (by simp [Pk.numBits])⟩, Fr.refl _ _⟩
  case round =>
    obtain ⟨k, hk, rfl, HW, HF⟩ := hrel
    by_cases hlt : k < n
    · obtain ⟨dv', hW⟩ := HW.out
      have hb2 : v / 2 ^ k % 2 < 2 := Nat.mod_lt _ (by decide)
      have hbit := wbit_any B wb K _ (v / 2 ^ k % 2) wr dv' hW hb2 (by rw [List.length_append, Pk.num_len]; omega)
      have hand := wand_one (v / 2 ^ k)
      have hsh : ((v / 2 ^ k : Nat) : Int) = (v : Int) / 2 ^ k := by push_cast; rfl
      obtain ⟨b, hb⟩ : ∃ b, b = v / 2 ^ k % 2 := ⟨_, rfl⟩
      rw [← hb] at hbit hand
      rw [hsh] at hand
      have HB := hide hbit
      have HBB := hide hb
      clear hbit hW hb hb2 hsh
      go_wp2_with fail
      refine HB.out.mono ?_
      rintro e w1 ⟨rfl, hf1, dv1, hW1⟩
      have HF1 := hide hf1
      have HW1 : Hid (∃ dv, Wr B wb K (bs ++ Pk.numBits v (k + 1)) w1 dv) := ⟨dv1, hW1.same (by rw [Pk.num_succ, ← HBB.out, List.append_assoc])⟩
      clear hf1 hW1
      go_wp2_with fail
      refine ⟨⟨k + 1, by omega, by go_num, HW1.out, HF.out.trans HF1.out⟩, by simp [intOf]; omega⟩
    · have e : k = n := by omega
      subst e
      go_wp2
      go_end0
      exact ⟨rfl, HF.out, HW.out⟩

/-- A code's bits, the highest first, the first k of them. -/
theorem word_take (v n k : Nat) (h : k < n) : (Pk.wordBits v n).take (k + 1) = (Pk.wordBits v n).take k ++ [v / 2 ^ (n - 1 - k) % 2] := by
  rw [List.take_add_one]
  congr 1
  unfold Pk.wordBits
  rw [List.getElem?_map, List.getElem?_range h]
  rfl
set_option maxRecDepth 100000 in
set_option maxHeartbeats 1600000 in
theorem wword_any (B wb : Nat) (K : List Nat) (bs : List Nat) (v n : Nat) (w : World) (dv : Value) (h : Wr B wb K bs w dv) (hn : n ≤ 40) (hl : bs.length + n ≤ 1000000) :
    Calls Tryz.prog 81 #[.pointer (some ⟨wb, 0, none⟩), .agg #[.int .i64 v, .int .i64 n]] w (WrP B wb K (bs ++ Pk.wordBits v n) w) := by
  have hwl := lt_of h.blk
  have hbsz := h.bsz
  have hwK := h.wbK
  have hkl := h.klt
  obtain ⟨w0, hw0⟩ : ∃ w0, w0 = w.alloc (.cells #[.int .i64 v, .int .i64 n] 154) := ⟨_, rfl⟩
  have hf0 : Fr No w w0 := by rw [hw0]; exact (Fr.refl _ _).alloc _
  have hs0 : w0.heap.size = w.heap.size + 1 := by rw [hw0, World.size_alloc]
  have hK1 : Wr B wb (w.heap.size :: K) bs w0 dv := by
    have h' := h.no hf0
    refine ⟨h'.blk, h'.row, fun g hg => ⟨(h'.far g hg).1, fun hm => ?_⟩, h'.bits, h'.wbB, h'.bsz, fun hm => ?_, fun k hk => ?_, h'.len⟩
    · rcases List.mem_cons.1 hm with e | hm
      · have := (wrow_lt h.row hg).2; omega
      · exact (h'.far g hg).2 hm
    · rcases List.mem_cons.1 hm with e | hm
      · omega
      · exact hwK hm
    · rcases List.mem_cons.1 hk with e | hk
      · omega
      · have := hkl k hk; omega
  have hc0 : w0.heap[w.heap.size]? = some (.cells #[.int .i64 v, .int .i64 n] 154 (0, 0)) := by rw [hw0]; exact alloc_at w _
  have HK1 := hide hK1
  have HC0 := hide hc0
  have HW0 := hide hw0
  have HF0 := hide hf0
  obtain ⟨pb, hpb⟩ : ∃ pb, pb = w.heap.size := ⟨_, rfl⟩
  rw [← hpb] at HK1 HC0
  have HPB := hide hpb
  clear h hw0 hf0 hs0 hK1 hc0 hkl
  go_enter Tryz.func81, Tryz.ntmps81
  go_wp2_with fail
  rw [← HW0.out, ← HPB.out]
  clear hpb
  go_loopw [4] (fun iv wr => ∃ k : Nat, k ≤ n ∧ iv = .int .i64 ((n : Int) - 1 - k) ∧ Hid (∃ dv, Wr B wb (pb :: K) (bs ++ (Pk.wordBits v n).take k) wr dv) ∧ Hid (Fr (Own B (pb :: K)) w0 wr)) (fun iv _ => (intOf iv + 1).toNat)
  case atStart => exact ⟨0, Nat.zero_le _, by simp, ⟨dv, HK1.out.same (by simp)⟩, Fr.refl _ _⟩
  case round =>
    obtain ⟨k, hk, rfl, HW, HF⟩ := hrel
    have hpc : wr.heap[pb]? = some (.cells #[.int .i64 v, .int .i64 n] 154 (0, 0)) := HF.out.at HC0.out (fun e => e.2 List.mem_cons_self)
    have p0 : wr.cell? ⟨pb, 0, none⟩ = some (.int .i64 v) := by rw [cell_of hpc]; rfl
    by_cases hlt : k < n
    · obtain ⟨dv', hW⟩ := HW.out
      have hb2 : v / 2 ^ (n - 1 - k) % 2 < 2 := Nat.mod_lt _ (by decide)
      have hbit := wbit_any B wb (pb :: K) _ (v / 2 ^ (n - 1 - k) % 2) wr dv' hW hb2 (by rw [List.length_append, List.length_take, Pk.word_len]; omega)
      have hand := wand_one (v / 2 ^ (n - 1 - k))
      obtain ⟨j, hj⟩ : ∃ j, j = n - 1 - k := ⟨_, rfl⟩
      have hji : (n : Int) - 1 - k = (j : Int) := by omega
      rw [← hj] at hbit hand
      have hsh : ((v / 2 ^ j : Nat) : Int) = (v : Int) / 2 ^ j := by push_cast; rfl
      obtain ⟨b, hb⟩ : ∃ b, b = v / 2 ^ j % 2 := ⟨_, rfl⟩
      rw [← hb] at hbit hand
      rw [hsh] at hand
      have HB := hide hbit
      have HBB := hide hb
      have HJ := hide hj
      rw [hji]
      have HJI := hide hji
      have hj40 : j < 40 := by omega
      clear hbit hW hb hb2 hsh hj hji hpc
      go_wp2_with fail
      refine HB.out.mono ?_
      rintro e w1 ⟨rfl, hf1, dv1, hW1⟩
      have HF1 := hide hf1
      have HW1 : Hid (∃ dv, Wr B wb (pb :: K) (bs ++ (Pk.wordBits v n).take (k + 1)) w1 dv) := ⟨dv1, hW1.same (by rw [word_take v n k hlt, ← HJ.out, ← HBB.out, List.append_assoc])⟩
      clear hf1 hW1
      go_wp2_with fail
      refine ⟨⟨k + 1, by omega, ?_, HW1.out, HF.out.trans HF1.out⟩, ?_⟩
      · have := HJI.out
        congr 1
        omega
      · simp [intOf]
    · have e : k = n := by omega
      subst e
      have hneg : (k : Int) - 1 - k = -1 := by omega
      rw [hneg]
      go_wp2
      go_end0
      obtain ⟨dv', hW⟩ := HW.out
      rw [List.take_of_length_le (by rw [Pk.word_len]; exact Nat.le_refl _)] at hW
      refine ⟨rfl, ?_, dv', ⟨hW.blk, hW.row, fun g hg => ⟨(hW.far g hg).1, fun hm => (hW.far g hg).2 (List.mem_cons_of_mem _ hm)⟩, hW.bits, hW.wbB, hW.bsz, hwK, fun k hk => hW.klt k (List.mem_cons_of_mem _ hk), hW.len⟩⟩
      exact (HF0.out.of_no (T := Own B K)).trans (HF.out.mono (fun k _ e => ⟨e.1, fun hm => e.2 (List.mem_cons_of_mem _ hm)⟩))


theorem wbyte_at (t : ByteArray) (i : Nat) (h : i < t.data.toList.length) (w : World) : (Instr.index 9 (.string t) (.int .i64 (i : Int))).run Tryz.prog w = .ok (.int .u8 (t.data.toList.getD i 0).toNat) w := by
  have h' : i < t.size := by simpa using h
  rw [run_index_string w 9 t .i64 i Tryz.underlying9, dif_pos (by omega)]
  have e : t[i] = t.data.toList.getD i 0 := by
    rw [List.getD_eq_getElem?_getD, List.getElem?_eq_getElem h]
    rfl
  simp only [Int.toNat_natCast, e]
set_option maxRecDepth 100000 in
set_option maxHeartbeats 1600000 in
theorem wstored_any (B wb : Nat) (K : List Nat) (bs : List Nat) (t : ByteArray) (w : World) (dv : Value) (h : Wr B wb K bs w dv) (ht : t.size ≤ 1500) (hl : bs.length ≤ 100) :
    Calls Tryz.prog 47 #[.pointer (some ⟨wb, 0, none⟩), .string t] w (WrP B wb K (Pk.storedBits bs t.data.toList) w) := by
  obtain ⟨ao, cap, hdv⟩ := h.form
  have htl : t.data.toList.length = t.size := by simp
  have c0 := h.c0
  have c1 := h.c1
  have f1 := h.fz 1
  rw [hdv] at c0
  obtain ⟨n, hn⟩ : ∃ n, n = bs.length := ⟨_, rfl⟩
  obtain ⟨q, hq⟩ : ∃ q, q = (bs.length + 7) / 8 := ⟨_, rfl⟩
  rw [← hq] at c0 hdv
  rw [← hn] at c1
  have hq100 : q ≤ 100 := by omega
  have hW1 : Wr B wb K (Pk.pad8 bs) (w.setCell ⟨wb, 1, none⟩ (.int .i64 (8 * (q : Int)))) dv := by
    refine ⟨?_, ?_, h.far, Pk.bits_pad h.bits, h.wbB, by rw [World.size_setCell]; exact h.bsz, h.wbK, fun k hk => by rw [World.size_setCell]; exact h.klt k hk, by rw [Pk.pad_len]; omega⟩
    · rw [set_of h.blk, Pk.pad_len, ← hq]; push_cast; rfl
    · rw [Pk.bytes_pad]
      exact ownsRow_fr (S := One wb) h.row ((Fr.refl _ _).setCell (fun _ => one_self wb) _) (fun g hg => one_ne (h.far g hg).1)
  have hf1 : Fr (Own B K) w (w.setCell ⟨wb, 1, none⟩ (.int .i64 (8 * (q : Int)))) := (Fr.refl _ _).setCell (fun _ => ⟨h.wbB, h.wbK⟩) _
  obtain ⟨w1, hw1⟩ : ∃ w1, w1 = w.setCell ⟨wb, 1, none⟩ (.int .i64 (8 * (q : Int))) := ⟨_, rfl⟩
  rw [← hw1] at hW1 hf1
  have hpl : (Pk.pad8 bs).length ≤ 200 := by rw [Pk.pad_len]; omega
  have HN1 := hide (wnumber_any B wb K _ t.size 16 w1 dv hW1 (by omega) (by omega))
  have HW1 := hide hw1
  have HF1 := hide hf1
  clear hw1 hf1 hW1 h hq hn hdv
  go_enter Tryz.func47, Tryz.ntmps47
  go_wp2_with fail
  rw [← HW1.out]
  refine HN1.out.mono ?_
  rintro e w2 ⟨rfl, hf2, dv2, hW2⟩
  obtain ⟨c, hc⟩ : ∃ c, c = 65535 - t.size := ⟨_, rfl⟩
  have hi : (65535 : Int) - (t.size : Int) = (c : Int) := by omega
  have hc5 : c ≤ 65535 := by omega
  have HCC := hide hc
  clear hc
  have HN2 := hide (wnumber_any B wb K _ c 16 w2 dv2 hW2 (by omega) (by rw [List.length_append, Pk.num_len]; omega))
  have HF2 := hide hf2
  clear hf2 hW2 HN1
  go_wp2_with fail
  refine HN2.out.mono ?_
  rintro e w3 ⟨rfl, hf3, dv3, hW3⟩
  have HW3 := hide hW3
  have HF3 := hide (HF1.out.trans (HF2.out.trans hf3))
  clear hf3 hW3 HN2
  go_wp2_with fail
  go_loopw [25] (fun iv wr => ∃ k : Nat, k ≤ t.size ∧ iv = .int .i64 k ∧ Hid (∃ dv, Wr B wb K (Pk.pad8 bs ++ Pk.numBits t.size 16 ++ Pk.numBits c 16 ++ Pk.byteBits (t.data.toList.take k)) wr dv) ∧ Hid (Fr (Own B K) w wr)) (fun iv _ => t.size - (intOf iv).toNat)
  case atStart => exact ⟨0, Nat.zero_le _, rfl, ⟨dv3, HW3.out.same (by simp [Pk.byteBits])⟩, HF3.out⟩
  case round =>
    obtain ⟨k, hk, rfl, HW, HF⟩ := hrel
    by_cases hlt : k < t.size
    · obtain ⟨dv', hW⟩ := HW.out
      have hkl : k < t.data.toList.length := by omega
      have hcl : (t.data.toList.getD k 0).toNat < 256 := (t.data.toList.getD k 0).toNat_lt
      have hnum := wnumber_any B wb K _ (t.data.toList.getD k 0).toNat 8 wr dv' hW (by omega) (by simp only [List.length_append, Pk.num_len, Pk.byte_len, List.length_take]; omega)
      have htk : t.data.toList.take (k + 1) = t.data.toList.take k ++ [t.data.toList.getD k 0] := by rw [List.take_add_one, List.getD, List.getElem?_eq_getElem hkl]; rfl
      have hix : ∀ W : World, (Instr.index 9 (.string t) (.int .i64 (k : Int))).run Tryz.prog W = .ok (.int .u8 (t.data.toList.getD k 0).toNat) W := fun W => wbyte_at t k hkl W
      obtain ⟨u, hu⟩ : ∃ u, u = (t.data.toList.getD k 0).toNat := ⟨_, rfl⟩
      rw [← hu] at hnum hix hcl
      have wu : IntKind.i64.wrap (u : Int) = u := wraps_i64 _ (by omega) (by omega)
      have HNUM := hide hnum
      have HU := hide hu
      have HTK := hide htk
      clear hnum hu htk hW
      go_wp2_with fail
      refine HNUM.out.mono ?_
      rintro e w5 ⟨rfl, hf5, dv5, hW5⟩
      have HF5 := hide hf5
      have HW5 : Hid (∃ dv, Wr B wb K (Pk.pad8 bs ++ Pk.numBits t.size 16 ++ Pk.numBits c 16 ++ Pk.byteBits (t.data.toList.take (k + 1))) w5 dv) := ⟨dv5, hW5.same (by rw [HTK.out, Pk.byte_snoc, ← HU.out, ← List.append_assoc])⟩
      clear hf5 hW5
      go_wp2_with fail
      refine ⟨⟨k + 1, by omega, by go_num, HW5.out, HF.out.trans HF5.out⟩, by simp [intOf]; omega⟩
    · have e : k = t.size := by omega
      subst e
      go_wp2
      go_end0
      obtain ⟨dv', hW⟩ := HW.out
      exact ⟨rfl, HF.out, dv', hW.same (by unfold Pk.storedBits; rw [List.take_of_length_le (by omega), htl, ← HCC.out])⟩
end Go.Proofs.YtjjjlilflbddoaaGreatDoor
/-
  The parts of a text, as the program finds them.
-/
namespace Go.Proofs.YtjjjlilflbddoaaGreatDoor
open Go.RowKit

set_option maxRecDepth 100000 in
set_option maxHeartbeats 1600000 in
theorem sameBytes_any (t : ByteArray) (q p : Nat) (w : World) (hq : q ≤ p) (hp : p ≤ t.data.toList.length) (ht : t.size ≤ 100000) :
    Calls Tryz.prog 100 #[.string t, .int .i64 q, .int .i64 p] w fun e w' => e = .returned (.int .i64 (Pk.alike t.data.toList q p : Nat)) ∧ Fr No w w' := by
  have htl : t.data.toList.length = t.size := by simp
  obtain ⟨m, hm⟩ : ∃ m, m = Pk.most t.data.toList p := ⟨_, rfl⟩
  have hmb : p + m ≤ t.size := by rw [hm]; unfold Pk.most; omega
  have hm258 : m ≤ 258 := by rw [hm]; unfold Pk.most; omega
  have HIX := hide (wbyte_at t)
  have HM := hide hm
  obtain ⟨d, hd⟩ : ∃ d, d = t.data.toList := ⟨_, rfl⟩
  rw [← hd] at HIX HM htl ⊢
  clear hm hd hp
  by_cases hcase : (t.size : Int) - (p : Int) < 258
  · have hA : (t.size : Int) - (p : Int) = (m : Int) := by have := HM.out; unfold Pk.most at this; omega
    have hA2 : (m : Int) < 258 := by omega
    clear hcase
    go_enter Tryz.func100, Tryz.ntmps100
    go_wp2
    go_loopw [15] (fun iv wr => ∃ k : Nat, k ≤ m ∧ iv = .int .i64 k ∧ Hid (Pk.runLen d q p k = k) ∧ Hid (Fr No w wr)) (fun iv _ => m - (intOf iv).toNat)
    case atStart => exact ⟨0, Nat.zero_le _, rfl, rfl, Fr.refl _ _⟩
    case round =>
      obtain ⟨k, hk, rfl, HR, HF⟩ := hrel
      by_cases hlt : k < m
      · have i1 : ∀ W : World, (Instr.index 9 (.string t) (.int .i64 ((q : Int) + (k : Int)))).run Tryz.prog W = .ok (.int .u8 (d.getD (q + k) 0).toNat) W := fun W => by
          have := HIX.out (q + k) (by omega) W
          rw [show (((q + k : Nat) : Nat) : Int) = (q : Int) + k by push_cast; rfl] at this
          exact this
        have i2 : ∀ W : World, (Instr.index 9 (.string t) (.int .i64 ((p : Int) + (k : Int)))).run Tryz.prog W = .ok (.int .u8 (d.getD (p + k) 0).toNat) W := fun W => by
          have := HIX.out (p + k) (by omega) W
          rw [show (((p + k : Nat) : Nat) : Int) = (p : Int) + k by push_cast; rfl] at this
          exact this
        have HGO : Hid (d.getD (q + k) 0 = d.getD (p + k) 0 → Pk.runLen d q p (k + 1) = k + 1) := fun e => Pk.run_go HR.out e
        have HST : Hid (d.getD (q + k) 0 ≠ d.getD (p + k) 0 → Pk.alike d q p = k) := fun e => by unfold Pk.alike; rw [← HM.out]; exact Pk.run_stop HR.out e m hk
        generalize d.getD (q + k) 0 = x at *
        generalize d.getD (p + k) 0 = y at *
        have w1 : IntKind.i64.wrap ((q : Int) + (k : Int)) = (q : Int) + k := wraps_i64 _ (by omega) (by omega)
        have w2 : IntKind.i64.wrap ((p : Int) + (k : Int)) = (p : Int) + k := wraps_i64 _ (by omega) (by omega)
        by_cases hxy : x = y
        · have HG := hide (HGO.out hxy)
          have hqb : ((x.toNat : Int) != (y.toNat : Int)) = false := by rw [hxy]; simp
          clear HGO HST hxy
          go_wp2
          go_quiet (fail)
          go_wp2
          refine ⟨⟨k + 1, by omega, by go_num, HG.out, HF.out.drewN _⟩, by simp [intOf]; omega⟩
        · have HS := hide (HST.out hxy)
          have hqb : ((x.toNat : Int) != (y.toNat : Int)) = true := by
            simp only [bne_iff_ne, ne_eq]
            intro e
            exact hxy (UInt8.toNat_inj.1 (by omega))
          clear HGO HST
          go_wp2
          go_quiet (fail)
          go_wp2
          go_ret
          exact ⟨by rw [HS.out]; rfl, HF.out.drewN _⟩
      · have e : k = m := by omega
        subst e
        go_wp2
        go_ret
        refine ⟨?_, HF.out⟩
        have : Pk.alike d q p = k := by unfold Pk.alike; rw [← HM.out]; exact HR.out
        rw [this]
        rfl
  · have hB : m = 258 := by have := HM.out; unfold Pk.most at this; omega
    have hB2 : (258 : Int) ≤ (t.size : Int) - (p : Int) := by omega
    clear hcase
    subst hB
    go_enter Tryz.func100, Tryz.ntmps100
    go_wp2
    go_loopw [15] (fun iv wr => ∃ k : Nat, k ≤ 258 ∧ iv = .int .i64 k ∧ Hid (Pk.runLen d q p k = k) ∧ Hid (Fr No w wr)) (fun iv _ => 258 - (intOf iv).toNat)
    case atStart => exact ⟨0, Nat.zero_le _, rfl, rfl, Fr.refl _ _⟩
    case round =>
      obtain ⟨k, hk, rfl, HR, HF⟩ := hrel
      by_cases hlt : k < 258
      · have i1 : ∀ W : World, (Instr.index 9 (.string t) (.int .i64 ((q : Int) + (k : Int)))).run Tryz.prog W = .ok (.int .u8 (d.getD (q + k) 0).toNat) W := fun W => by
          have := HIX.out (q + k) (by omega) W
          rw [show (((q + k : Nat) : Nat) : Int) = (q : Int) + k by push_cast; rfl] at this
          exact this
        have i2 : ∀ W : World, (Instr.index 9 (.string t) (.int .i64 ((p : Int) + (k : Int)))).run Tryz.prog W = .ok (.int .u8 (d.getD (p + k) 0).toNat) W := fun W => by
          have := HIX.out (p + k) (by omega) W
          rw [show (((p + k : Nat) : Nat) : Int) = (p : Int) + k by push_cast; rfl] at this
          exact this
        have HGO : Hid (d.getD (q + k) 0 = d.getD (p + k) 0 → Pk.runLen d q p (k + 1) = k + 1) := fun e => Pk.run_go HR.out e
        have HST : Hid (d.getD (q + k) 0 ≠ d.getD (p + k) 0 → Pk.alike d q p = k) := fun e => by unfold Pk.alike; rw [← HM.out]; exact Pk.run_stop HR.out e 258 hk
        generalize d.getD (q + k) 0 = x at *
        generalize d.getD (p + k) 0 = y at *
        have w1 : IntKind.i64.wrap ((q : Int) + (k : Int)) = (q : Int) + k := wraps_i64 _ (by omega) (by omega)
        have w2 : IntKind.i64.wrap ((p : Int) + (k : Int)) = (p : Int) + k := wraps_i64 _ (by omega) (by omega)
        by_cases hxy : x = y
        · have HG := hide (HGO.out hxy)
          have hqb : ((x.toNat : Int) != (y.toNat : Int)) = false := by rw [hxy]; simp
          clear HGO HST hxy
          go_wp2
          go_quiet (fail)
          go_wp2
          refine ⟨⟨k + 1, by omega, by go_num, HG.out, HF.out.drewN _⟩, by simp [intOf]; omega⟩
        · have HS := hide (HST.out hxy)
          have hqb : ((x.toNat : Int) != (y.toNat : Int)) = true := by
            simp only [bne_iff_ne, ne_eq]
            intro e
            exact hxy (UInt8.toNat_inj.1 (by omega))
          clear HGO HST
          go_wp2
          go_quiet (fail)
          go_wp2
          go_ret
          exact ⟨by rw [HS.out]; rfl, HF.out.drewN _⟩
      · have e : k = 258 := by omega
        subst e
        go_wp2
        go_ret
        refine ⟨?_, HF.out⟩
        have : Pk.alike d q p = 258 := by unfold Pk.alike; rw [← HM.out]; exact HR.out
        rw [this]
        rfl
end Go.Proofs.YtjjjlilflbddoaaGreatDoor
