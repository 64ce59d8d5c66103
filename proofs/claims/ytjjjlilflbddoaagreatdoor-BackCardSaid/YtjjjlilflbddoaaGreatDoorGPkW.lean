import Derived.Test.YtjjjlilflbddoaaGreatDoorGPkA
import Derived.Test.YtjjjlilflbddoaaGreatDoorAsk
import Derived.Laws.BitsAllLaws
import Derived.BigRegion
/-
  The writer: bits put behind one another.
-/
namespace Go.Proofs.YtjjjlilflbddoaaGreatDoor
open Go.RowKit

theorem u8_put (x k b : Nat) (hk : k < 8) (hx : x < 2 ^ k) (hb : b < 2) : bits BinOp.or IntKind.u8 (x : Int) ((b * 2 ^ k : Nat) : Int) = ((x + b * 2 ^ k : Nat) : Int) := by
  have h2 : 2 ^ k ≤ 2 ^ 7 := Nat.pow_le_pow_right (by decide) (by omega)
  have h3 : b * 2 ^ k ≤ 1 * 2 ^ k := Nat.mul_le_mul_right _ (by omega)
  rw [u8_or_nat x (b * 2 ^ k) (by omega) (by omega)]
  have := Nat.two_pow_add_eq_or_of_lt hx b
  rw [Nat.mul_comm b, Nat.or_comm, ← this, Nat.add_comm]

theorem winfo5 : (Tryz.prog.info? 5).map (fun i => (i.zero, i.size, i.bytes)) = some (some (.int .u8 0), 1, 1) := by kernel_rfl
theorem wrow_lt {w : World} {B n b : Nat} {e : TypeId} {z : Nat} {v : Value} {xs : List Value} (h : w.ownsRow B e z v n xs) (hb : v.ownBlock = some b) : B ≤ b ∧ b < w.heap.size := by
  rcases h.2 with ⟨h, _⟩ | ⟨g, cap, cur, h, hB, hg, _⟩
  · rw [h] at hb; cases hb
  · rw [h] at hb; simp [Value.ownBlock] at hb; subst hb; exact ⟨hB, lt_of hg⟩
/-- A writer at work: what it has put; its block, and its row from B on. -/
structure Wr (B wb : Nat) (K : List Nat) (bs : List Nat) (w : World) (dv : Value) : Prop where
  blk : w.heap[wb]? = some (.cells #[dv, .int .i64 (bs.length : Nat)] 99 (0, 0))
  row : w.ownsRow B 5 1 dv (Pk.toBytes bs).length ((Pk.toBytes bs).map bv)
  far : ∀ g, dv.ownBlock = some g → g ≠ wb ∧ g ∉ K
  bits : Pk.Bits bs
  wbB : B ≤ wb
  bsz : B ≤ w.heap.size
  wbK : wb ∉ K
  klt : ∀ k ∈ K, k < w.heap.size
  len : bs.length ≤ 1000000
section
variable {B wb : Nat} {K : List Nat} {bs : List Nat} {w w' : World} {dv : Value}
theorem Wr.c0 (h : Wr B wb K bs w dv) : w.cell? ⟨wb, 0, none⟩ = some dv := by rw [cell_of h.blk]; rfl
theorem Wr.c1 (h : Wr B wb K bs w dv) : w.cell? ⟨wb, 1, none⟩ = some (.int .i64 (bs.length : Nat)) := by rw [cell_of h.blk]; rfl
theorem Wr.fz (h : Wr B wb K bs w dv) (i : Nat) : w.frozen? ⟨wb, i, none⟩ = false := frozen_of h.blk i
theorem Wr.no (h : Wr B wb K bs w dv) (f : Fr No w w') : Wr B wb K bs w' dv :=
  ⟨f.at h.blk (no_no _), ownsRow_fr h.row f (fun _ _ => no_no _), h.far, h.bits, h.wbB, Nat.le_trans h.bsz f.size, h.wbK, fun k hk => Nat.lt_of_lt_of_le (h.klt k hk) f.size, h.len⟩
theorem Wr.form (h : Wr B wb K bs w dv) : ∃ ao cap, dv = .slice ao ((bs.length + 7) / 8) cap := by
  obtain ⟨ao, cap, e⟩ := ownsRow_form h.row
  exact ⟨ao, cap, by rw [e, Pk.bytes_len]⟩
end
/-- What a call of the writer leaves: more bits. -/
def WrP (B wb : Nat) (K : List Nat) (bs : List Nat) (w : World) (e : Ending) (w' : World) : Prop := e = .returned (.tuple #[]) ∧ Fr (Own B K) w w' ∧ ∃ dv, Wr B wb K bs w' dv
end Go.Proofs.YtjjjlilflbddoaaGreatDoor
namespace Go.Proofs.YtjjjlilflbddoaaGreatDoor
open Go.RowKit

/-- The last byte is set, and one bit more is counted. -/
theorem wr_done {B wb g cap q n : Nat} {K : List Nat} {bs : List Nat} {b v : Nat} {W : World} {cur : Array Value} {L : List UInt8} (hblk : W.heap[wb]? = some (.cells #[.slice (some ⟨g, 0, none⟩) (q + 1) cap, .int .i64 (n : Nat)] 99 (0, 0)))
    (hh : W.heap[g]? = some (.cells cur 5 (0, 0))) (hcc : q + 1 ≤ cap) (hmx : cap ≤ maxLen) (hsz : cur.size = cap * 1) (ht : cur.toList.take ((q + 1) * 1) = L.map bv) (hn : n = bs.length) (hq : q = n / 8) (hL : L.set q (UInt8.ofNat v) = Pk.toBytes (bs ++ [b])) (hv : v < 256)
    (hg : g ≠ wb ∧ g ∉ K) (hBg : B ≤ g) (hbits : Pk.Bits bs) (hb : b < 2) (hwB : B ≤ wb) (hbsz : B ≤ W.heap.size) (hwK : wb ∉ K) (hkl : ∀ k ∈ K, k < W.heap.size) (hl : n < 1000000) :
    Wr B wb K (bs ++ [b]) ((World.drew (W.setCell ⟨g, q, none⟩ (.int .u8 (v : Int)))).setCell ⟨wb, 1, none⟩ (.int .i64 ((n : Int) + 1))) (.slice (some ⟨g, 0, none⟩) (q + 1) cap) := by
  have h1 : (World.drew (W.setCell ⟨g, q, none⟩ (.int .u8 (v : Int)))).heap[wb]? = some (.cells #[.slice (some ⟨g, 0, none⟩) (q + 1) cap, .int .i64 (n : Nat)] 99 (0, 0)) := (set_other q _ (Ne.symm hg.1)).trans hblk
  have h2 : (World.drew (W.setCell ⟨g, q, none⟩ (.int .u8 (v : Int)))).heap[g]? = some (.cells (cur.setIfInBounds q (.int .u8 (v : Int))) 5 (0, 0)) := set_of hh q _
  have e1 : (bs ++ [b]).length = n + 1 := by simp [hn]
  refine ⟨?_, ⟨?_, .inr ⟨g, cap, cur.setIfInBounds q (.int .u8 (v : Int)), ?_, hBg, ?_, ?_, hmx, ?_, ?_⟩⟩, fun g' hg' => ?_, hbits.app (Pk.bits_one hb), hwB, ?_, hwK, fun k hk => ?_, by rw [e1]; omega⟩
  · rw [set_of h1, e1]; push_cast; rfl
  · simp
  · rw [Pk.bytes_len, e1]; congr 1; omega
  · exact (set_other 1 _ hg.1).trans h2
  · rw [Pk.bytes_len, e1]; omega
  · rw [Array.size_setIfInBounds]; exact hsz
  · rw [Pk.bytes_len, e1, show (n + 1 + 7) / 8 * 1 = (q + 1) * 1 by omega, Array.toList_setIfInBounds, ← hL]
    apply List.ext_getElem?
    intro i
    rw [List.map_set]
    have ht' : ∀ i : Nat, (cur.toList.take ((q + 1) * 1))[i]? = (L.map bv)[i]? := fun i => by rw [ht]
    have hti := ht' i
    rw [List.getElem?_take, List.getElem?_set, List.getElem?_set]
    rw [List.getElem?_take] at hti
    have hLl : L.length = q + 1 := by
      have := congrArg List.length ht
      simp at this
      omega
    by_cases hiq : q = i
    · subst hiq
      rw [if_pos (by omega), if_pos rfl, if_pos rfl, if_pos (by rw [Array.length_toList]; omega), if_pos (by simp; omega)]
      show _ = some (Value.int .u8 ((UInt8.ofNat v).toNat : Int))
      rw [UInt8.toNat_ofNat_of_lt' hv]
    · rw [if_neg hiq, if_neg hiq]; exact hti
  · have : g' = g := by simp [Value.ownBlock] at hg'; exact hg'.symm
    subst this
    exact hg
  · show B ≤ (World.setCell _ _ _).heap.size
    rw [World.size_setCell]
    show B ≤ (World.setCell _ _ _).heap.size
    rw [World.size_setCell]
    exact hbsz
  · show k < (World.setCell _ _ _).heap.size
    rw [World.size_setCell]
    show k < (World.setCell _ _ _).heap.size
    rw [World.size_setCell]
    exact hkl k hk

set_option maxRecDepth 100000 in
set_option maxHeartbeats 4000000 in
theorem wbit_any (B wb : Nat) (K : List Nat) (bs : List Nat) (b : Nat) (w : World) (dv : Value) (h : Wr B wb K bs w dv) (hb : b < 2) (hl : bs.length < 1000000) :
    Calls Tryz.prog 71 #[.pointer (some ⟨wb, 0, none⟩), .int .i64 b] w (WrP B wb K (bs ++ [b]) w) := by
  have c0 := h.c0
  have c1 := h.c1
  have f0 := h.fz 0
  obtain ⟨ao, cap, hdv⟩ := h.form
  rw [hdv] at c0
  obtain ⟨n, hn⟩ : ∃ n, n = bs.length := ⟨_, rfl⟩
  rw [← hn] at c0 c1 hl
  obtain ⟨q, hq⟩ : ∃ q, q = n / 8 := ⟨_, rfl⟩
  obtain ⟨m, hm⟩ : ∃ m, m = n % 8 := ⟨_, rfl⟩
  have hm8 : m < 8 := by omega
  have iq : (n : Int) / 8 = (q : Int) := by omega
  have im : (n : Int) % 8 = (m : Int) := by omega
  have iq2 : (n : Int).tdiv 8 = (q : Int) := by rw [Int.tdiv_eq_ediv_of_nonneg (by omega)]; exact iq
  have im2 : (n : Int).tmod 8 = (m : Int) := by rw [Int.tmod_eq_emod_of_nonneg (by omega)]; exact im
  have wq : IntKind.i64.wrap (q : Int) = q := wraps_i64 _ (by omega) (by omega)
  have wm : IntKind.i64.wrap (m : Int) = m := wraps_i64 _ (by omega) (by omega)
  have hp2 : 2 ^ m ≤ 2 ^ 7 := Nat.pow_le_pow_right (by decide) (by omega)
  have hbp : b * 2 ^ m ≤ 1 * 2 ^ m := Nat.mul_le_mul_right _ (by omega)
  obtain ⟨z, hz⟩ : ∃ z, z = b * 2 ^ m := ⟨_, rfl⟩
  have hz128 : z ≤ 128 := by omega
  have iz : (b : Int) * 2 ^ m = (z : Int) := by rw [hz]; push_cast; rfl
  have wz : IntKind.i64.wrap (z : Int) = z := wraps_i64 _ (by omega) (by omega)
  have wz8 : IntKind.u8.wrap (z : Int) = z := by rw [IntKind.wrap_u8]; omega
  have hqq : (q : Int) < (q : Int) + 1 := by omega
  have hwl := lt_of h.blk
  by_cases h8 : m = 0
  · have hN : (n + 7) / 8 = q := by omega
    rw [hN] at c0
    have hne : ((m : Int) == 0) = true := by simp; omega
    obtain ⟨i0, hi, hz0, hz1, hz2⟩ := info_parts winfo5
    have hrow : w.ownsRow B 5 1 (.slice ao q cap) q ((Pk.toBytes bs).map bv) := by
      have := h.row
      rw [hdv, Pk.bytes_len, ← hn, hN] at this
      exact this
    have hfar := h.far
    rw [hdv, ← hn, hN] at hfar
    have HFAR := hide hfar
    have hor : bits BinOp.or IntKind.u8 (0 : Int) (b : Int) = (b : Int) := by
      have := u8_put 0 0 b (by omega) (by decide) hb
      simpa using this
    have wb8 : IntKind.u8.wrap (b : Int) = b := by rw [IntKind.wrap_u8]; omega
    have wbi : IntKind.i64.wrap (b : Int) = b := wraps_i64 _ (by omega) (by omega)
    have H := hide h
    have HROW := hide hrow
    have HN := hide hn
    have HQ := hide hq
    have HM := hide hm
    have HDV := hide hdv
    have HZ := hide hz
    have hbsz := h.bsz
    clear h hz hn hq hm hdv hN hrow hfar
    go_enter Tryz.func71, Tryz.ntmps71
    go_wp2_with (at_builtin; refine wpList_append_lies _ rfl (.tmp 14) (.tmp 15) 61 rfl B 5 i0 (.int .u8 0) 1 1 Tryz.underlying61 hi hz0 hz1 hz2 rfl (by decide) (.slice ao q cap) q ((Pk.toBytes bs).map bv) rfl ?hown ⟨w.heap.size, 0, none⟩ 1 1 [.int .u8 0] rfl rfl ?hnews ?h1 (by decide) ?h63 ?hb ?hbase _ rfl ?hK)
    case hown => exact ownsRow_fr (S := No) HROW.out ((Fr.refl _ _).alloc _) (fun _ _ => no_no _)
    case hnews => first | exact (fun j u h => h) | (intro j u hj; match j, hj with | 0, hj => simp at hj; subst hj; exact cell_of (alloc_at w _) 0)
    case h1 => first | rfl | (intro u hu; simp at hu; subst hu; rfl)
    case h63 => unfold maxLen; omega
    case hb => omega
    case hbase => first | omega | (simp; omega)
    case hK =>
      intro g cap5 w5 hown5 hgrow5 hat5 hlt5
      have hwf : some wb ≠ (Value.slice ao q cap).ownBlock := fun e => (HFAR.out wb e.symm).1 rfl
      have hf5 : Fr (fun k => some k = (Value.slice ao q cap).ownBlock) w w5 := ((Fr.refl _ _).alloc _).grown hgrow5 (fun k hk _ => hk.symm)
      have hb5 : w5.heap[wb]? = some (.cells #[.slice ao q cap, .int .i64 (n : Nat)] 99 (0, 0)) := by
        have := H.out.blk
        rw [HDV.out, ← HN.out, show (n + 7) / 8 = q by have := HQ.out; have := HM.out; omega] at this
        exact hf5.at this (fun e => hwf e)
      have u0 : w5.cell? ⟨wb, 0, none⟩ = some (.slice ao q cap) := by rw [cell_of hb5]; rfl
      have v0 := frozen_of hb5 0
      have hg1 : g ≠ wb ∧ g ∉ K := by
        rcases hat5 with h | h
        · exact HFAR.out g h
        · have h1 : w.heap.size ≤ g := by rw [h]; simp
          exact ⟨by omega, fun hk => by have := H.out.klt g hk; omega⟩
      have hb6 : (w5.setCell ⟨wb, 0, none⟩ (.slice (some ⟨g, 0, none⟩) (q + 1) cap5)).heap[wb]? = some (.cells #[.slice (some ⟨g, 0, none⟩) (q + 1) cap5, .int .i64 (n : Nat)] 99 (0, 0)) := by rw [set_of hb5]; rfl
      obtain ⟨cur, hBg, hh, hcc, hmx, hsz, ht⟩ : ∃ cur, B ≤ g ∧ w5.heap[g]? = some (.cells cur 5 (0, 0)) ∧ q + 1 ≤ cap5 ∧ cap5 ≤ maxLen ∧ cur.size = cap5 * 1 ∧ cur.toList.take ((q + 1) * 1) = (Pk.toBytes bs ++ [0]).map bv := by
        rcases hown5.2 with ⟨h, _⟩ | ⟨g', cp, cur, e, r1, r2, r3, r4, r5, r6⟩
        · cases h
        · injection e with e1 e2 e3
          injection e1 with e1
          injection e1 with e1
          subst e1
          subst e3
          exact ⟨cur, r1, r2, r3, r4, r5, by rw [r6, List.map_append]; rfl⟩
      have hbl : (Pk.toBytes bs).length = q := by rw [Pk.bytes_len, ← HN.out]; have := HQ.out; have := HM.out; omega
      have hcell5 : w5.cell? ⟨g, q, none⟩ = some (.int .u8 0) := by
        rw [cell_of hh]
        have e1 : (cur.toList.take ((q + 1) * 1))[q]? = ((Pk.toBytes bs ++ [0]).map bv)[q]? := by rw [ht]
        rw [List.getElem?_take_of_lt (by omega)] at e1
        rw [← Array.getElem?_toList, e1, List.getElem?_map, List.getElem?_append_right (by omega), hbl, Nat.sub_self]
        rfl
      have hh6 : (w5.setCell ⟨wb, 0, none⟩ (.slice (some ⟨g, 0, none⟩) (q + 1) cap5)).heap[g]? = some (.cells cur 5 (0, 0)) := (set_other 0 _ hg1.1).trans hh
      obtain ⟨w6, hw6⟩ : ∃ w6, w6 = w5.setCell ⟨wb, 0, none⟩ (.slice (some ⟨g, 0, none⟩) (q + 1) cap5) := ⟨_, rfl⟩
      rw [← hw6] at hb6 hh6
      have a0 : w6.cell? ⟨wb, 0, none⟩ = some (.slice (some ⟨g, 0, none⟩) (q + 1) cap5) := by rw [cell_of hb6]; rfl
      have a1 : w6.cell? ⟨wb, 1, none⟩ = some (.int .i64 (n : Nat)) := by rw [cell_of hb6]; rfl
      have a2 : w6.cell? ⟨g, q, none⟩ = some (.int .u8 0) := by rw [cell_of hh6, ← cell_of hh]; exact hcell5
      have fz6 := frozen_of hh6 q
      have hf6 : Fr (Own B K) w w6 := by
        rw [hw6]
        refine (hf5.mono (fun k hk e => ?_)).trans ((Fr.refl (Own B K) w5).setCell (fun _ => ⟨H.out.wbB, H.out.wbK⟩) _)
        have := wrow_lt HROW.out e.symm
        exact ⟨this.1, (HFAR.out k e.symm).2⟩
      have hd := wr_done (v := b) (b := b) (K := K) (B := B) (bs := bs) hb6 hh6 hcc hmx hsz ht HN.out HQ.out (by
          rw [Pk.bytes_new bs b (by rw [← HN.out, ← HM.out]; exact h8), List.set_append_right _ _ (by omega), hbl, Nat.sub_self]; rfl) (by omega) hg1 hBg H.out.bits hb H.out.wbB (Nat.le_trans hbsz hf6.size) H.out.wbK (fun k hk => Nat.lt_of_lt_of_le (H.out.klt k hk) hf6.size) hl
      have hf : Fr (Own B K) w ((World.drew (w6.setCell ⟨g, q, none⟩ (.int .u8 (b : Int)))).setCell ⟨wb, 1, none⟩ (.int .i64 ((n : Int) + 1))) :=
        ((hf6.setCell (fun _ => ⟨hBg, hg1.2⟩) _).drew).setCell (fun _ => ⟨H.out.wbB, H.out.wbK⟩) _
      have u1 : (w6.setCell ⟨g, q, none⟩ (.int .u8 (b : Int))).cell? ⟨wb, 1, none⟩ = some (.int .i64 (n : Nat)) := (World.cell?_of_block (set_other q _ (Ne.symm hg1.1))).trans a1
      have v1 : (w6.setCell ⟨g, q, none⟩ (.int .u8 (b : Int))).frozen? ⟨wb, 1, none⟩ = false := frozen_of ((set_other (w := w6) (b := g) (k := wb) q (.int .u8 (b : Int)) (Ne.symm hg1.1)).trans hb6) 1
      have HD := hide (And.intro hd hf)
      have HW6 := hide hw6
      clear hd hf hw6 hown5 hgrow5 hat5 hh hh6 ht hsz hb5 hb6 hf5 hf6 hcell5 H HROW
      go_wp2_with fail
      rw [← HW6.out]
      go_region
      go_wp2
      go_end0
      exact ⟨rfl, HD.out.2, _, HD.out.1⟩
  · have hne : ((m : Int) == 0) = false := by simp; omega
    have hN : (n + 7) / 8 = q + 1 := by omega
    rw [hN] at c0
    obtain ⟨g, cp, cur, hv, hBg, hh, hcc, hmx, hsz, ht⟩ : ∃ g cp cur, dv = .slice (some ⟨g, 0, none⟩) (q + 1) cp ∧ B ≤ g ∧ w.heap[g]? = some (.cells cur 5 (0, 0)) ∧ q + 1 ≤ cp ∧ cp ≤ maxLen ∧ cur.size = cp * 1 ∧ cur.toList.take ((q + 1) * 1) = (Pk.toBytes bs).map bv := by
      have hr := h.row
      rw [Pk.bytes_len, ← hn, hN] at hr
      rcases hr.2 with ⟨_, h0⟩ | ⟨g, cp, cur, r⟩
      · omega
      · exact ⟨g, cp, cur, r⟩
    rw [hdv, ← hn, hN] at hv
    injection hv with e1 e2 e3
    subst e1
    subst e3
    have hgf := h.far g (by rw [hdv]; rfl)
    obtain ⟨x, hx⟩ : ∃ x, x = Pk.valL bs (8 * q) 8 := ⟨_, rfl⟩
    have hx8 : x < 2 ^ m := by rw [hx, hm, hq, hn]; exact Pk.valL_tail h.bits
    have hx256 : x < 256 := by rw [hx]; exact Pk.valL_lt h.bits _ 8
    have hcell : w.cell? ⟨g, q, none⟩ = some (.int .u8 x) := by
      rw [cell_of hh]
      have e1 : (cur.toList.take ((q + 1) * 1))[q]? = ((Pk.toBytes bs).map bv)[q]? := by rw [ht]
      rw [List.getElem?_take_of_lt (by omega)] at e1
      rw [← Array.getElem?_toList, e1, List.getElem?_map, Pk.toBytes, List.getElem?_map, List.getElem?_range (by omega)]
      simp only [Option.map_some]
      rw [← hx]
      show some (Value.int .u8 ((UInt8.ofNat x).toNat : Int)) = _
      rw [UInt8.toNat_ofNat_of_lt' hx256]
    have hor : bits BinOp.or IntKind.u8 (x : Int) (z : Int) = (x : Int) + z := by rw [hz]; rw [u8_put x m b hm8 hx8 hb]; push_cast; rfl
    have hfz := frozen_of hh q
    have hd := wr_done (v := x + z) (b := b) (K := K) (B := B) (bs := bs) (by rw [← hN, hn, ← hdv]; exact h.blk) hh hcc hmx hsz ht hn hq (by rw [Pk.bytes_in bs b (by omega), ← hn, ← hq, ← hm, ← hx, ← hz]) (by omega) hgf hBg h.bits hb h.wbB h.bsz h.wbK h.klt hl
    have hf : Fr (Own B K) w ((World.drew (w.setCell ⟨g, q, none⟩ (.int .u8 ((x + z : Nat) : Int)))).setCell ⟨wb, 1, none⟩ (.int .i64 ((n : Int) + 1))) :=
      (((Fr.refl (Own B K) w).setCell (fun _ => ⟨hBg, hgf.2⟩) _).drew).setCell (fun _ => ⟨h.wbB, h.wbK⟩) _
    have u1 : (w.setCell ⟨g, q, none⟩ (.int .u8 ((x : Int) + z))).cell? ⟨wb, 1, none⟩ = some (.int .i64 (n : Nat)) := (World.cell?_of_block (set_other q _ (Ne.symm hgf.1))).trans c1
    have v1 : (w.setCell ⟨g, q, none⟩ (.int .u8 ((x : Int) + z))).frozen? ⟨wb, 1, none⟩ = false := by
      have := (set_other (w := w) (b := g) (k := wb) q (.int .u8 ((x : Int) + z)) (Ne.symm hgf.1)).trans h.blk
      exact frozen_of this 1
    have HD := hide (And.intro hd hf)
    clear h hd hf hz hn hx hq hm hdv hh ht hN hsz
    go_enter Tryz.func71, Tryz.ntmps71
    go_wp2_with fail
    go_region
    go_wp2
    go_end0
    have := HD.out
    rw [show (((x + z : Nat) : Nat) : Int) = (x : Int) + z by push_cast; rfl] at this
    exact ⟨rfl, this.2, _, this.1⟩
end Go.Proofs.YtjjjlilflbddoaaGreatDoor
