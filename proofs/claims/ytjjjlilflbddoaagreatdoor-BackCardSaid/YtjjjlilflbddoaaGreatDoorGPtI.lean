import Derived.Test.YtjjjlilflbddoaaGreatDoorGPtF
import Derived.Test.YtjjjlilflbddoaaGreatDoorGDist
import Derived.Test.YtjjjlilflbddoaaGreatDoorGPkS
/-
  The lengths up to the last, same lengths, the symbol that tells lengths, the lengths of these symbols.
-/
namespace Go.Proofs.YtjjjlilflbddoaaGreatDoor
open Go.RowKit Pm

set_option maxRecDepth 100000 in
set_option maxHeartbeats 1600000 in
theorem upToLast_any (b off cap : Nat) (l : List Nat) (w : World) (h : Bys w b off l) (hn : l.length ≤ 1000) :
    Calls Tryz.prog 76 #[.slice (some ⟨b, off, none⟩) l.length cap] w fun e w' => e = .returned (.int .i64 (Pk.upTo l l.length : Nat)) ∧ w' = w := by
  have H := hide h
  clear h
  obtain ⟨n, hne⟩ : ∃ n, n = l.length := ⟨_, rfl⟩
  rw [← hne] at hn ⊢
  have HNE := hide hne
  clear hne
  go_enter Tryz.func76, Tryz.ntmps76
  go_wp2
  go_loop [3] (fun iv => ∃ k : Nat, k ≤ n ∧ iv = .int .i64 k ∧ Hid (Pk.upTo l n = Pk.upTo l k)) (fun iv => (intOf iv).toNat)
  case atStart => exact ⟨n, Nat.le_refl _, rfl, rfl⟩
  case round =>
    obtain ⟨k, hk, rfl, HK⟩ := hrel
    by_cases hk0 : 0 < k
    · obtain ⟨j, rfl⟩ : ∃ j, k = j + 1 := ⟨k - 1, by omega⟩
      have hc := H.out.2 j (by have := HNE.out; omega)
      have HD : Hid (Pk.upTo l (j + 1) = if l.getD j 0 = 0 then Pk.upTo l j else j + 1) := rfl
      have hji : ((j + 1 : Nat) : Int) - 1 = (j : Int) := by omega
      have hjn : (j : Int) < (n : Int) := by omega
      obtain ⟨x, hx⟩ : ∃ x, x = l.getD j 0 := ⟨_, rfl⟩
      rw [← hx] at hc HD
      clear hx
      have hj1 : (0 : Int) < ((j + 1 : Nat) : Int) := by omega
      by_cases hx0 : x = 0
      · subst hx0
        go_wp2
        go_round
        case rel => exact ⟨j, by omega, by go_num, by unfold Hid; rw [HK.out, HD.out, if_pos rfl]⟩
        case measure => simp [intOf]
      · have hx0i : ((x : Int) == 0) = false := by simp; omega
        go_wp2
        go_ret
        exact ⟨ret_int (by rw [HK.out, HD.out, if_neg hx0]; omega), rfl⟩
    · have hk00 : k = 0 := by omega
      subst hk00
      go_wp2
      go_ret
      exact ⟨ret_int (by rw [HK.out]; rfl), rfl⟩

theorem sameN_take (l : Nat) (r : List Nat) : ∀ k, (∀ i, i < k → r.getD i 0 = l) → k ≤ r.length → (k < r.length → r.getD k 0 ≠ l) → Pk.sameN l r = k := by
  induction r with
  | nil => intro k _ h _; simp at h; subst h; rfl
  | cons x r ih =>
    intro k h1 h2 h3
    unfold Pk.sameN
    cases k with
    | zero =>
      have := h3 (by simp)
      rw [if_neg (by simpa using this)]
    | succ k =>
      have h0 := h1 0 (by omega)
      rw [if_pos (by simpa using h0), ih k (fun i hi => by have := h1 (i + 1) (by omega); simpa using this) (by simpa using h2) (fun hk => by have := h3 (by simpa using hk); simpa using this)]
set_option maxRecDepth 100000 in
set_option maxHeartbeats 1600000 in
theorem sameLengths_any (b off cap : Nat) (l : List Nat) (w : World) (h : Bys w b off l) (hn : l.length ≤ 1000) (h0 : 0 < l.length) :
    Calls Tryz.prog 107 #[.slice (some ⟨b, off, none⟩) l.length cap] w fun e w' => e = .returned (.int .i64 (Pk.sameN (l.getD 0 0) l : Nat)) ∧ w' = w := by
  have H := hide h
  have hc0 := h.2 0 h0
  rw [Nat.add_zero] at hc0
  clear h
  obtain ⟨n, hne⟩ : ∃ n, n = l.length := ⟨_, rfl⟩
  rw [← hne] at hn h0 ⊢
  have HNE := hide hne
  obtain ⟨x, hx⟩ : ∃ x, x = l.getD 0 0 := ⟨_, rfl⟩
  rw [← hx] at hc0 ⊢
  have HX := hide hx
  clear hne hx
  have h0i : (0 : Int) < (n : Int) := by omega
  go_enter Tryz.func107, Tryz.ntmps107
  go_wp2
  go_loop [7] (fun iv => ∃ k : Nat, k ≤ n ∧ iv = .int .i64 k ∧ Hid (∀ i, i < k → l.getD i 0 = x)) (fun iv => n - (intOf iv).toNat)
  case atStart => exact ⟨0, Nat.zero_le _, rfl, fun i hi => by omega⟩
  case round =>
    obtain ⟨k, hk, rfl, HK⟩ := hrel
    by_cases hlt : k < n
    · have hc := H.out.2 k (by have := HNE.out; omega)
      have hki : (k : Int) < (n : Int) := by omega
      obtain ⟨y, hy⟩ : ∃ y, y = l.getD k 0 := ⟨_, rfl⟩
      rw [← hy] at hc
      have HY := hide hy
      clear hy
      by_cases hxy : y = x
      · have hne : ((y : Int) != (x : Int)) = false := by simp; omega
        have HXY := hide hxy
        clear hxy
        go_wp2
        go_round
        case rel =>
          refine ⟨k + 1, by omega, by go_num, fun i hi => ?_⟩
          by_cases e : i = k
          · rw [e, ← HY.out]; exact HXY.out
          · exact HK.out i (by omega)
        case measure => simp [intOf]; omega
      · have hne : ((y : Int) != (x : Int)) = true := by simp; omega
        go_wp2
        go_ret
        exact ⟨ret_int (by rw [sameN_take x l k HK.out (by have := HNE.out; omega) (fun _ => by rw [← HY.out]; exact hxy)]), rfl⟩
    · have hke : k = n := by omega
      subst hke
      go_wp2
      go_ret
      exact ⟨ret_int (by rw [sameN_take x l k HK.out (by have := HNE.out; omega) (fun h => by have := HNE.out; omega)]), rfl⟩

set_option maxRecDepth 100000 in
theorem tellingSymbol_any (l same : Nat) (ag : Bool) (w : World) :
    Calls Tryz.prog 108 #[.int .i64 l, .int .i64 same, .bool ag] w fun e w' => e = .returned (.int .i64 (Pk.tSym l same ag : Nat)) ∧ w' = w := by
  by_cases h0 : l = 0
  · subst h0
    by_cases h1 : 11 ≤ same
    · have hv : Pk.tSym 0 same ag = 18 := by unfold Pk.tSym; rw [if_pos ⟨rfl, h1⟩]
      rw [hv]
      clear hv
      have h1i : (11 : Int) ≤ (same : Int) := by omega
      go_enter Tryz.func108, Tryz.ntmps108
      go_wp2
      go_ret
      exact ⟨rfl, rfl⟩
    · by_cases h2 : 3 ≤ same
      · have hv : Pk.tSym 0 same ag = 17 := by unfold Pk.tSym; rw [if_neg (fun h => h1 h.2), if_pos ⟨rfl, h2⟩]
        rw [hv]
        clear hv
        have h1i : ¬ (11 : Int) ≤ (same : Int) := by omega
        have h2i : (3 : Int) ≤ (same : Int) := by omega
        go_enter Tryz.func108, Tryz.ntmps108
        go_wp2
        go_ret
        exact ⟨rfl, rfl⟩
      · cases ag with
        | true =>
          have hv : Pk.tSym 0 same true = 0 := by unfold Pk.tSym; rw [if_neg (fun h => h1 h.2), if_neg (fun h => h2 h.2), if_neg (fun h => h2 h.2)]
          rw [hv]
          clear hv
          have h1i : ¬ (11 : Int) ≤ (same : Int) := by omega
          have h2i : ¬ (3 : Int) ≤ (same : Int) := by omega
          go_enter Tryz.func108, Tryz.ntmps108
          go_wp2
          go_ret
          exact ⟨rfl, rfl⟩
        | false =>
          have hv : Pk.tSym 0 same false = 0 := by unfold Pk.tSym; rw [if_neg (fun h => h1 h.2), if_neg (fun h => h2 h.2), if_neg (fun h => by cases h.1)]
          rw [hv]
          clear hv
          have h1i : ¬ (11 : Int) ≤ (same : Int) := by omega
          have h2i : ¬ (3 : Int) ≤ (same : Int) := by omega
          go_enter Tryz.func108, Tryz.ntmps108
          go_wp2
          go_ret
          exact ⟨rfl, rfl⟩
  · have h0i : ((l : Int) == 0) = false := by simp; omega
    cases ag with
    | true =>
      by_cases h2 : 3 ≤ same
      · have hv : Pk.tSym l same true = 16 := by unfold Pk.tSym; rw [if_neg (fun h => h0 h.1), if_neg (fun h => h0 h.1), if_pos ⟨rfl, h2⟩]
        rw [hv]
        clear hv
        have h2i : (3 : Int) ≤ (same : Int) := by omega
        go_enter Tryz.func108, Tryz.ntmps108
        go_wp2
        go_ret
        exact ⟨rfl, rfl⟩
      · have hv : Pk.tSym l same true = l := by unfold Pk.tSym; rw [if_neg (fun h => h0 h.1), if_neg (fun h => h0 h.1), if_neg (fun h => h2 h.2)]
        rw [hv]
        clear hv
        have h2i : ¬ (3 : Int) ≤ (same : Int) := by omega
        go_enter Tryz.func108, Tryz.ntmps108
        go_wp2
        go_ret
        exact ⟨rfl, rfl⟩
    | false =>
      have hv : Pk.tSym l same false = l := by unfold Pk.tSym; rw [if_neg (fun h => h0 h.1), if_neg (fun h => h0 h.1), if_neg (fun h => by cases h.1)]
      rw [hv]
      clear hv
      go_enter Tryz.func108, Tryz.ntmps108
      go_wp2
      go_ret
      exact ⟨rfl, rfl⟩
end Go.Proofs.YtjjjlilflbddoaaGreatDoor
/-
  The tellings of lengths.
-/
namespace Go.Proofs.YtjjjlilflbddoaaGreatDoor
open Go.RowKit Pm

def uvl (l : List Nat) : List Value := l.map fun n => .int .u8 (n : Nat)
theorem uvl_one (l : List Nat) : ∀ u ∈ uvl l, u.oneCell' = true := fun u hu => by
  obtain ⟨n, _, rfl⟩ := List.mem_map.1 hu
  rfl
theorem uvl_len (l : List Nat) : (uvl l).length = l.length := by simp [uvl]
theorem uvl_get (l : List Nat) (i : Nat) (h : i < l.length) : (uvl l)[i]? = some (.int .u8 (l.getD i 0 : Nat)) := by
  unfold uvl
  rw [List.getElem?_map, List.getElem?_eq_getElem h, List.getD, List.getElem?_eq_getElem h]
  rfl
/-- Bytes as they are read. -/
theorem slin_bys {w : World} {b off n cap : Nat} {l : List Nat} (h : Bys w b off l) (hn : n = l.length) : SlIn w 1 (.slice (some ⟨b, off, none⟩) n cap) n (uvl l) := by
  subst hn
  refine ⟨by rw [uvl_len]; omega, uvl_one l, _, _, rfl, .inr ⟨_, rfl, h.1, fun j u hj => ?_⟩⟩
  have hjl : j < l.length := by
    rcases Nat.lt_or_ge j l.length with h2 | h2
    · exact h2
    · rw [List.getElem?_eq_none (by rw [uvl_len]; exact h2)] at hj; cases hj
  rw [uvl_get l j hjl] at hj
  injection hj with hj
  subst hj
  have hc : (⟨b, off, none⟩ : Addr).add j = ⟨b, off + j, none⟩ := by simp [Addr.add]
  rw [hc]
  exact h.2 j hjl
theorem bys_drop {w : World} {b off k : Nat} {l : List Nat} (h : Bys w b off l) : Bys w b (off + k) (l.drop k) := ⟨h.1, fun i hi => by
  rw [List.length_drop] at hi
  have := h.2 (k + i) (by omega)
  rw [List.getD, List.getElem?_drop, Nat.add_assoc]
  exact this⟩
theorem bys_take {w : World} {b off k : Nat} {l : List Nat} (h : Bys w b off l) : Bys w b off (l.take k) := ⟨h.1, fun i hi => by
  rw [List.length_take] at hi
  have := h.2 i (by omega)
  rw [List.getD, List.getElem?_take_of_lt (by omega)]
  exact this⟩
/-- What a row of bytes holds. -/
theorem bys_cur {w : World} {b : Nat} {cur : Array Value} {l : List Nat} (h : w.heap[b]? = some (.cells cur 5 (0, 0))) (ht : cur.toList.take (l.length * 1) = uvl l) : Bys w b 0 l := ⟨lt_of h, fun i hi => by
  rw [Nat.zero_add, cell_of h]
  have e : (cur.toList.take (l.length * 1))[i]? = (uvl l)[i]? := by rw [ht]
  rw [List.getElem?_take_of_lt (by omega), Array.getElem?_toList, uvl_get l i hi] at e
  exact e⟩
def bfv : Option Nat → Int
  | none => -1
  | some l => (l : Int)
theorem bf_eq (bf : Option Nat) (l : Nat) : ((l : Int) == bfv bf) = (bf == some l) := by
  cases bf with
  | none => show ((l : Int) == -1) = _; rw [show ((none : Option Nat) == some l) = false from rfl]; simp
  | some x =>
    show ((l : Int) == (x : Int)) = _
    by_cases h : l = x
    · subst h; simp
    · have h2 : ¬ x = l := fun e => h e.symm
      have e1 : ((l : Int) == (x : Int)) = false := by simp; omega
      have e2 : (some x == some l) = false := by simp [h2]
      rw [e1, e2]
theorem winfoT : (Tryz.prog.info? 150).map (fun i => (i.zero, i.size, i.bytes)) = some (some (.agg #[.int .i64 0, .int .i64 0]), 2, 16) := by kernel_rfl
/-- What the tellings come to. -/
def TellsP (all : List Nat) (w : World) (e : Ending) (w' : World) : Prop := ∃ tv, e = .returned tv ∧ w'.ownsRow w.heap.size 150 2 tv (Pk.tells all).length ((Pk.tells all).flatMap wordv) ∧ Fr No w w'

set_option maxRecDepth 100000 in
set_option maxHeartbeats 12800000 in
theorem tellings_any (lb ns nd : Nat) (l all : List Nat) (w : World) (h : Bys w lb 0 l) (hl : l.length = 320) (hL : Lens l) (hns : ns ≤ 288) (hnd : nd ≤ 32) (hns1 : 1 ≤ ns) (hall : all = l.take ns ++ (l.drop 288).take nd) :
    Calls Tryz.prog 77 #[.pointer (some ⟨lb, 0, none⟩), .int .i64 ns, .int .i64 nd] w (TellsP all w) := by
  obtain ⟨i0, hi, hz0, hz1, hz2⟩ := info_parts winfoT
  have hx15 : ∀ x ∈ all, x ≤ 15 := fun x hx => by
    rw [hall] at hx
    rcases List.mem_append.1 hx with h | h
    · exact Pk.lens_mem hL x (List.mem_of_mem_take h)
    · exact Pk.lens_mem hL x (List.mem_of_mem_drop (List.mem_of_mem_take h))
  have haln : all.length = ns + nd := by rw [hall]; simp; omega
  have HX15 := hide hx15
  have HALN := hide haln
  have hb1 : Bys w lb 0 (l.take ns) := bys_take h
  have hb2 : Bys w lb 288 ((l.drop 288).take nd) := by have := bys_take (k := nd) (bys_drop (k := 288) h); rwa [Nat.zero_add] at this
  have HS1 := hide (slin_bys (n := ns) (cap := 320) hb1 (by rw [List.length_take]; omega))
  have HS2 := hide (slin_bys (n := nd) (cap := 32) hb2 (by rw [List.length_take, List.length_drop]; omega))
  have HALL : Hid (uvl (l.take ns) ++ uvl ((l.drop 288).take nd) = uvl all) := by unfold Hid; rw [hall]; simp [uvl]
  obtain ⟨ne, hne⟩ : ∃ ne, ne = 288 + nd := ⟨_, rfl⟩
  have hnei : (288 : Int) + (nd : Int) = (ne : Int) := by omega
  have wne : IntKind.i64.wrap (ne : Int) = ne := wraps_i64 _ (by omega) (by omega)
  have hnsi : (ns : Int) ≤ 320 := by omega
  have hnei2 : (ne : Int) ≤ 320 := by omega
  have hnei3 : (288 : Int) ≤ (ne : Int) := by omega
  have hned : ne - 288 = nd := by omega
  have hlb := h.1
  clear hx15 hall haln hb1 hb2 hL hl h hne
  go_enter Tryz.func77, Tryz.ntmps77
  go_upto_region 1 with fail
  refine wp_region_held (S := fun _ => True) (by kernel_rfl) ?_
  change wpAnyH _ _ _ _ _ _ _ _ (World.drew _)
  refine wpAnyH_take (i := 0) (v := .pointer (some ⟨lb, 0, none⟩)) rfl (by kernel_rfl) (by kernel_rfl) (by kernel_rfl) (fun _ _ _ h => h) (Or.inl ⟨by kernel_rfl, by intro w _; go_simp⟩) trivial ?_
  refine wpAnyH_take (i := 1) (v := .pointer (some ⟨lb, 0, none⟩)) rfl (by kernel_rfl) (by kernel_rfl) (by kernel_rfl) (fun _ _ _ h => h) (Or.inl ⟨by kernel_rfl, by intro w _; go_simp⟩) trivial ?_
  refine wpAnyH_take (i := 2) (v := .int .i64 (ns : Nat)) rfl (by kernel_rfl) (by kernel_rfl) (by kernel_rfl) (fun _ _ _ h => h) (Or.inl ⟨by kernel_rfl, by intro w _; go_simp⟩) trivial ?_
  refine wpAnyH_take (i := 3) (v := .slice (some ⟨lb, 0, none⟩) ns 320) rfl (by kernel_rfl) (by kernel_rfl) (by kernel_rfl) (fun _ _ _ h => h) (Or.inl ⟨by kernel_rfl, by intro w _; go_simp⟩) trivial ?_
  refine wpAnyH_take (i := 4) (v := .pointer (some ⟨lb, 0, none⟩)) rfl (by kernel_rfl) (by kernel_rfl) (by kernel_rfl) (fun _ _ _ h => h) (Or.inl ⟨by kernel_rfl, by intro w _; go_simp⟩) trivial ?_
  refine wpAnyH_take (i := 5) (v := .pointer (some ⟨lb, 0, none⟩)) rfl (by kernel_rfl) (by kernel_rfl) (by kernel_rfl) (fun _ _ _ h => h) (Or.inl ⟨by kernel_rfl, by intro w _; go_simp⟩) trivial ?_
  refine wpAnyH_take (i := 6) (v := .int .i64 (nd : Nat)) rfl (by kernel_rfl) (by kernel_rfl) (by kernel_rfl) (fun _ _ _ h => h) (Or.inl ⟨by kernel_rfl, by intro w _; go_simp⟩) trivial ?_
  refine wpAnyH_take (i := 7) (v := .int .i64 (ne : Nat)) rfl (by kernel_rfl) (by kernel_rfl) (by kernel_rfl) (fun _ _ _ h => h) (Or.inl ⟨by kernel_rfl, by intro w _; go_simp⟩) trivial ?_
  refine wpAnyH_take (i := 8) (v := .slice (some ⟨lb, 288, none⟩) nd 32) rfl (by kernel_rfl) (by kernel_rfl) (by kernel_rfl) (fun _ _ _ h => h) (Or.inl ⟨by kernel_rfl, by intro w _; go_simp⟩) trivial ?_
  refine wpAnyH_one (i := 9) (by kernel_rfl) rfl (by kernel_rfl) (fun K'' hK' => ?_)
  go_simp
  obtain ⟨V1, hV1⟩ : ∃ V1, V1 = World.drew (w.alloc (.cells #[.slice (some ⟨lb, 0, none⟩) ns 320, .slice (some ⟨lb, 288, none⟩) nd 32] 61)) := ⟨_, rfl⟩
  rw [← hV1]
  have hfV1 : Fr No w V1 := by rw [hV1]; exact ((Fr.refl No w).alloc _).drew
  have hsb : V1.heap[w.heap.size]? = some (.cells #[.slice (some ⟨lb, 0, none⟩) ns 320, .slice (some ⟨lb, 288, none⟩) nd 32] 61 (0, 0)) := by rw [hV1]; exact alloc_at w _
  clear hV1
  refine hK' _ _ trivial ?_
  clear hK' K''
  refine wpAnyH_one (i := 10) (by kernel_rfl) rfl (by kernel_rfl) (fun K'' hK' => ?_)
  go_simp
  refine (concatU_any ns nd w.heap.size 2 _ _ _ _ V1 (HS1.out.fr hfV1 (fun _ _ => no_no _)) (HS2.out.fr hfV1 (fun _ _ => no_no _)) hsb (by omega)).mono ?_
  rintro ee V2 ⟨vv, rfl, hvv, hfV2⟩
  rw [HALL.out] at hvv
  obtain ⟨rb, cap, curR, hvf, hrbB, hrbb, hcap, hcur⟩ : ∃ rb cap curR, vv = .slice (some ⟨rb, 0, none⟩) (ns + nd) cap ∧ V1.heap.size ≤ rb ∧ V2.heap[rb]? = some (.cells curR 5 (0, 0)) ∧ ns + nd ≤ cap ∧ curR.toList.take ((ns + nd) * 1) = uvl all := by
    rcases hvv.2 with ⟨_, e2⟩ | ⟨rb, cap, cur, e1, e2, e3, e4, _, _, e5⟩
    · omega
    · exact ⟨rb, cap, cur, e1, e2, e3, e4, e5⟩
  subst hvf
  refine hK' _ _ trivial ?_
  clear hK' K''
  obtain ⟨n, hn⟩ : ∃ n, n = ns + nd := ⟨_, rfl⟩
  rw [← hn] at hcap hcur HALN ⊢
  have HN := hide hn
  refine wpAnyH_take (i := 11) (v := .slice (some ⟨rb, 0, none⟩) n cap) rfl (by kernel_rfl) (by kernel_rfl) (by kernel_rfl) (fun _ _ _ h => h) (Or.inl ⟨by kernel_rfl, by intro w _; go_simp⟩) trivial ?_
  refine wpAnyH_done (by kernel_rfl) ?_ _
  simp only [List.getElem_toArray, List.getElem_cons_succ, List.getElem_cons_zero]
  go_frame
  have HF2 := hide (hfV1.trans hfV2)
  have HRB2 := hide hrbb
  have HCUR := hide hcur
  have HCAP := hide hcap
  have HBYS : Hid (∀ W : World, W.heap[rb]? = some (.cells curR 5 (0, 0)) → Bys W rb 0 all) := fun W hW => bys_cur hW (by rw [HALN.out]; exact HCUR.out)
  have hn400 : n ≤ 400 := by omega
  clear hrbb hcur hcap hn hvv hfV1 hfV2 hsb hrbB
  go_wp2_with fail
  go_loopw [7, 8, 9] (fun rv bv tv wr => ∃ (off : Nat) (ax : Option Addr) (bf : Option Nat) (ts : List (Nat × Nat)), off ≤ n ∧ rv = .slice ax (n - off) (cap - off) ∧ Hid (off < n → ax = some ⟨rb, off, none⟩) ∧ bv = .int .i64 (bfv bf) ∧ Hid (wr.ownsRow w.heap.size 150 2 tv ts.length (ts.flatMap wordv)) ∧ Hid (ts ++ Pk.tellsFrom (all.drop off) bf = Pk.tells all) ∧ Hid (ts.length ≤ off) ∧ Hid (wr.heap[rb]? = some (.cells curR 5 (0, 0))) ∧ Hid (Fr No w wr)) (fun rv _ _ _ => lenOf rv)
  case atStart => exact ⟨0, some ⟨rb, 0, none⟩, none, [], Nat.zero_le _, rfl, fun _ => rfl, rfl, ⟨rfl, .inl ⟨rfl, rfl⟩⟩, rfl, Nat.le_refl _, HRB2.out, HF2.out⟩
  case round =>
    obtain ⟨off, ax, bf, ts, hoff, rfl, HAX, rfl, HR, HE, HLE, HRB, HF⟩ := hrel
    obtain ⟨ta, tc, htv, _⟩ := orow_form HR.out
    subst htv
    obtain ⟨m, hm⟩ : ∃ m, m = n - off := ⟨_, rfl⟩
    obtain ⟨cr, hcr⟩ : ∃ cr, cr = cap - off := ⟨_, rfl⟩
    rw [← hm, ← hcr]
    have htl : ts.length ≤ 400 := by have := HLE.out; omega
    by_cases hlt : off < n
    · have hax := HAX.out hlt
      subst hax
      have hm0 : 0 < m := by omega
      have hm0i : (0 : Int) < (m : Int) := by omega
      have hby := HBYS.out wr HRB.out
      have hbd : Bys wr rb off (all.drop off) := by have := bys_drop (k := off) hby; rwa [Nat.zero_add] at this
      have hdl : (all.drop off).length = m := by rw [List.length_drop, HALN.out]; omega
      obtain ⟨l0, r, hlr⟩ : ∃ l0 r, all.drop off = l0 :: r := by
        cases hd : all.drop off with
        | nil => rw [hd] at hdl; simp at hdl; omega
        | cons a r => exact ⟨a, r, rfl⟩
      have hl15 : l0 ≤ 15 := HX15.out l0 (List.mem_of_mem_drop (by rw [hlr]; simp))
      have hc0 := hbd.2 0 (by omega)
      rw [Nat.add_zero, hlr] at hc0
      have hc0 : wr.cell? ⟨rb, off, none⟩ = some (.int .u8 (l0 : Nat)) := hc0
      have HSA := hide (sameLengths_any rb off cr (all.drop off) wr hbd (by omega) (by omega))
      rw [hdl, hlr] at HSA
      have HSA : Hid (Calls Tryz.prog 107 #[.slice (some ⟨rb, off, none⟩) m cr] wr fun e w' => e = .returned (.int .i64 (Pk.sameN l0 (l0 :: r) : Nat)) ∧ w' = wr) := HSA.out
      have HTS := hide (tellingSymbol_any l0 (Pk.sameN l0 (l0 :: r)) (bf == some l0) wr)
      have hone := Pk.tOne_lt l0 r bf hl15
      have HTS : Hid (Calls Tryz.prog 108 #[.int .i64 l0, .int .i64 (Pk.sameN l0 (l0 :: r) : Nat), .bool (bf == some l0)] wr fun e w' => e = .returned (.int .i64 (Pk.tOne l0 r bf : Nat)) ∧ w' = wr) := HTS.out
      have HBE := hide (behind_any (Pk.tOne l0 r bf) wr (by omega))
      have HBE : Hid (Calls Tryz.prog 80 #[.int .i64 (Pk.tOne l0 r bf : Nat)] wr fun e w' => e = .returned (.tuple #[.int .i64 (Pk.tBits (Pk.tOne l0 r bf) : Nat), .int .i64 (Pk.tLeast (Pk.tOne l0 r bf) : Nat)]) ∧ w' = wr) := HBE.out
      obtain ⟨k1, k2, k3⟩ := Pk.tMany_ok l0 r bf hl15
      have k4 := Pk.same_le l0 (l0 :: r)
      have k5 : (l0 :: r).length = m := by rw [← hlr]; exact hdl
      have k6 := Pk.tLeast_pos (Pk.tOne l0 r bf)
      have k7 : Pk.tBits (Pk.tOne l0 r bf) ≤ 7 := by unfold Pk.tBits; split <;> (try split) <;> (try split) <;> omega
      have HTA : Hid (Pk.tellsFrom (all.drop off) bf = (Pk.tOne l0 r bf, Pk.tMany l0 r bf - Pk.tLeast (Pk.tOne l0 r bf)) :: Pk.tellsFrom (all.drop (off + Pk.tMany l0 r bf)) (some l0)) := by
        unfold Hid
        rw [hlr, Pk.tells_at l0 r bf (fun x hx => HX15.out x (List.mem_of_mem_drop (by rw [hlr]; exact hx))), ← hlr, List.drop_drop]
      have HMD : Hid (Pk.tMany l0 r bf = min (Pk.sameN l0 (l0 :: r)) (Pk.tLeast (Pk.tOne l0 r bf) + 2 ^ Pk.tBits (Pk.tOne l0 r bf) - 1)) := rfl
      have hbfe := bf_eq bf l0
      obtain ⟨ag, hag⟩ : ∃ ag, ag = (bf == some l0) := ⟨_, rfl⟩
      rw [← hag] at HTS hbfe
      obtain ⟨bi, hbi⟩ : ∃ bi, bi = bfv bf := ⟨_, rfl⟩
      rw [← hbi] at hbfe ⊢
      obtain ⟨sm, hsm⟩ : ∃ sm, sm = Pk.sameN l0 (l0 :: r) := ⟨_, rfl⟩
      rw [← hsm] at HSA HTS HMD k2 k4
      obtain ⟨sy, hsy⟩ : ∃ sy, sy = Pk.tOne l0 r bf := ⟨_, rfl⟩
      obtain ⟨tm, htm⟩ : ∃ tm, tm = Pk.tMany l0 r bf := ⟨_, rfl⟩
      rw [← hsy, ← htm] at HTA HMD k1 k3
      rw [← htm] at k2
      rw [← hsy] at HTS HBE k6 k7 hone
      obtain ⟨bt, hbt⟩ : ∃ bt, bt = Pk.tBits sy := ⟨_, rfl⟩
      obtain ⟨le, hle⟩ : ∃ le, le = Pk.tLeast sy := ⟨_, rfl⟩
      rw [← hbt, ← hle] at HBE HMD k3
      rw [← hle] at HTA k1 k6
      rw [← hbt] at k7
      obtain ⟨p2, hp2⟩ : ∃ p2, p2 = 2 ^ bt := ⟨_, rfl⟩
      have hp2m : p2 ≤ 128 := by rw [hp2]; exact Nat.pow_le_pow_right (by decide) k7
      have hp20 : 0 < p2 := by rw [hp2]; exact Nat.pow_pos (by decide)
      have hp2i : (2 : Int) ^ bt = (p2 : Int) := by rw [hp2]; push_cast; rfl
      rw [← hp2] at HMD k3
      obtain ⟨s1, hs1⟩ : ∃ s1, s1 = le + p2 := ⟨_, rfl⟩
      obtain ⟨s2, hs2⟩ : ∃ s2, s2 = s1 - 1 := ⟨_, rfl⟩
      obtain ⟨mr, hmr⟩ : ∃ mr, mr = tm - le := ⟨_, rfl⟩
      rw [← hmr] at HTA
      have hle11 : le ≤ 11 := by rw [hle]; unfold Pk.tLeast; split <;> (try split) <;> (try split) <;> omega
      have hs1i : (le : Int) + (p2 : Int) = (s1 : Int) := by omega
      have hs2i : (s1 : Int) - 1 = (s2 : Int) := by omega
      have hmri : (tm : Int) - (le : Int) = (mr : Int) := by omega
      have ws1 : IntKind.i64.wrap (s1 : Int) = s1 := wraps_i64 _ (by omega) (by omega)
      have ws2 : IntKind.i64.wrap (s2 : Int) = s2 := wraps_i64 _ (by omega) (by omega)
      have wmr : IntKind.i64.wrap (mr : Int) = mr := wraps_i64 _ (by omega) (by omega)
      have wp2 : IntKind.i64.wrap (p2 : Int) = p2 := wraps_i64 _ (by omega) (by omega)
      have wl0 : IntKind.i64.wrap (l0 : Int) = l0 := wraps_i64 _ (by omega) (by omega)
      have htmd : tm = min sm s2 := by rw [HMD.out]; congr 1; omega
      have htmm : tm ≤ m := by omega
      have htm1 : 1 ≤ tm := by omega
      have htmc : tm ≤ cr := by have := HCAP.out; omega
      have hbt64 : (bt : Int) < 64 := by omega
      have HTM := hide (And.intro htm1 (show off + tm ≤ n by omega))
      have HCR := hide (And.intro hcr htmc)
      have HM := hide hm
      have htmi : (tm : Int) ≤ (m : Int) := by omega
      have HTMD := hide htmd
      clear hby hbd hdl hlr hag hbi hsm hsy htm hbt hle hp2 hs1 hs2 hmr htmd k1 k2 k3 k4 k5 hm hcr HMD HAX hone
      by_cases hcmp : sm ≤ s2
      · have hcmpi : (sm : Int) ≤ (s2 : Int) := by omega
        have htms : tm = sm := by have := HTMD.out; omega
        subst htms
        go_wp2_with fail
        refine HSA.out.mono ?_
        rintro ee W1 ⟨rfl, hW1⟩
        have hW1 := hW1.symm
        subst hW1
        go_wp2_with fail
        refine HTS.out.mono ?_
        rintro ee W1 ⟨rfl, hW1⟩
        have hW1 := hW1.symm
        subst hW1
        go_wp2_with fail
        refine HBE.out.mono ?_
        rintro ee W1 ⟨rfl, hW1⟩
        have hW1 := hW1.symm
        subst hW1
        obtain ⟨wa, hwa⟩ : ∃ wa, wa = wr.alloc (.cells #[.int .i64 (sy : Nat), .int .i64 (mr : Nat)] 150) := ⟨_, rfl⟩
        have hfa : Fr No wr wa := by rw [hwa]; exact (Fr.refl _ _).alloc _
        have hba : wa.heap[wr.heap.size]? = some (.cells #[.int .i64 (sy : Nat), .int .i64 (mr : Nat)] 150 (0, 0)) := by rw [hwa]; exact alloc_at wr _
        have HOW := hide (ownsRow_fr HR.out hfa (fun _ _ => no_no _))
        have hwas : w.heap.size ≤ wa.heap.size := Nat.le_trans HF.out.size hfa.size
        have HBA := hide hba
        have HWA := hide hwa
        have HFA := hide hfa
        clear hwa hfa hba
        go_wp2_with (at_builtin; rw [← HWA.out]; refine wpList_append_lies _ rfl (.tmp 54) (.tmp 60) 143 rfl w.heap.size 150 i0 (.agg #[.int .i64 0, .int .i64 0]) 2 16 Tryz.underlying143 hi hz0 hz1 hz2 rfl (by decide) (.slice ta ts.length tc) ts.length (ts.flatMap wordv) rfl HOW.out ⟨wr.heap.size, 0, none⟩ 1 1 [.int .i64 (sy : Nat), .int .i64 (mr : Nat)] rfl rfl ?hnews ?h1 (by decide) ?h63 ?hb hwas _ rfl ?hK)
        case hnews => intro j u hj; match j, hj with | 0, hj => simp at hj; subst hj; exact cell_of HBA.out 0 | 1, hj => simp at hj; subst hj; exact cell_of HBA.out 1
        case h1 => intro u hu; simp at hu; rcases hu with rfl | rfl <;> rfl
        case h63 => unfold maxLen; omega
        case hb => omega
        case hK =>
          intro g5 cap5 w5 hown5 hgrow5 hat5 hlt5
          have hf5 : Fr (BlkB (.slice ta ts.length tc)) wa w5 := (Fr.refl _ wa).grown hgrow5 (fun k hk _ => hk)
          have HNF : Hid (Fr No w w5) := (HF.out.trans HFA.out).trans2 (blk_own hf5 HOW.out)
          have HNR : Hid (w5.heap[rb]? = some (.cells curR 5 (0, 0))) := by
            refine hf5.at (HFA.out.at HRB.out (no_no _)) (fun e => ?_)
            rcases HR.out.2 with ⟨q1, _⟩ | ⟨g2, c2, cur2, q1, _, q3, _⟩
            · rw [q1] at e; cases e
            · rw [q1] at e
              have e' : g2 = rb := by have : (some g2 : Option Nat) = some rb := e; injection this
              subst e'
              have q4 := HRB.out
              rw [q3] at q4
              injection q4 with q4
              injection q4 with _ q5
              exact absurd q5 (by decide)
          have HN5 := hide hown5
          clear hown5 hgrow5 hat5 hlt5 hf5
          have HNX : Hid ((ts ++ [(sy, mr)]) ++ Pk.tellsFrom (all.drop (off + tm)) (some l0) = Pk.tells all) := by
            unfold Hid
            rw [← HE.out, HTA.out, List.append_assoc]
            rfl
          by_cases hlast : cap - off = tm
          · have hcl : cr = tm := by have := HCR.out; omega
            subst hcl
            go_wp2_with fail
            refine ⟨⟨off + cr, some ⟨rb, off, none⟩, some l0, ts ++ [(sy, mr)], ?_, ?_, ?_, ?_, ?_, HNX.out, ?_, HNR.out, HNF.out⟩, ?_⟩
            · have := HTM.out; omega
            · congr 1
              · have := HCR.out; have := HM.out; omega
              · have := HCR.out; omega
            · intro h; have := HCR.out; have := HCAP.out; omega
            · rfl
            · unfold Hid
              have := HN5.out
              rw [List.flatMap_append, List.length_append]
              simpa [wordv] using this
            · have := HLE.out; have := HTM.out; unfold Hid; rw [List.length_append, List.length_singleton]; omega
            · have := HTM.out; have := HM.out; simp [lenOf]; omega
          · have hcl : ¬ cr = tm := by have := HCR.out; omega
            go_wp2_with fail
            refine ⟨⟨off + tm, some ⟨rb, off + tm, none⟩, some l0, ts ++ [(sy, mr)], ?_, ?_, ?_, ?_, ?_, HNX.out, ?_, HNR.out, HNF.out⟩, ?_⟩
            · have := HTM.out; omega
            · congr 1
              · have := HCR.out; have := HM.out; omega
              · have := HCR.out; omega
            · intro h; rfl
            · rfl
            · unfold Hid
              have := HN5.out
              rw [List.flatMap_append, List.length_append]
              simpa [wordv] using this
            · have := HLE.out; have := HTM.out; unfold Hid; rw [List.length_append, List.length_singleton]; omega
            · have := HTM.out; have := HM.out; simp [lenOf]; omega
      · have hcmpi : ¬ (sm : Int) ≤ (s2 : Int) := by omega
        have htms : tm = s2 := by have := HTMD.out; omega
        subst htms
        go_wp2_with fail
        refine HSA.out.mono ?_
        rintro ee W1 ⟨rfl, hW1⟩
        have hW1 := hW1.symm
        subst hW1
        go_wp2_with fail
        refine HTS.out.mono ?_
        rintro ee W1 ⟨rfl, hW1⟩
        have hW1 := hW1.symm
        subst hW1
        go_wp2_with fail
        refine HBE.out.mono ?_
        rintro ee W1 ⟨rfl, hW1⟩
        have hW1 := hW1.symm
        subst hW1
        obtain ⟨wa, hwa⟩ : ∃ wa, wa = wr.alloc (.cells #[.int .i64 (sy : Nat), .int .i64 (mr : Nat)] 150) := ⟨_, rfl⟩
        have hfa : Fr No wr wa := by rw [hwa]; exact (Fr.refl _ _).alloc _
        have hba : wa.heap[wr.heap.size]? = some (.cells #[.int .i64 (sy : Nat), .int .i64 (mr : Nat)] 150 (0, 0)) := by rw [hwa]; exact alloc_at wr _
        have HOW := hide (ownsRow_fr HR.out hfa (fun _ _ => no_no _))
        have hwas : w.heap.size ≤ wa.heap.size := Nat.le_trans HF.out.size hfa.size
        have HBA := hide hba
        have HWA := hide hwa
        have HFA := hide hfa
        clear hwa hfa hba
        go_wp2_with (at_builtin; rw [← HWA.out]; refine wpList_append_lies _ rfl (.tmp 54) (.tmp 60) 143 rfl w.heap.size 150 i0 (.agg #[.int .i64 0, .int .i64 0]) 2 16 Tryz.underlying143 hi hz0 hz1 hz2 rfl (by decide) (.slice ta ts.length tc) ts.length (ts.flatMap wordv) rfl HOW.out ⟨wr.heap.size, 0, none⟩ 1 1 [.int .i64 (sy : Nat), .int .i64 (mr : Nat)] rfl rfl ?hnews ?h1 (by decide) ?h63 ?hb hwas _ rfl ?hK)
        case hnews => intro j u hj; match j, hj with | 0, hj => simp at hj; subst hj; exact cell_of HBA.out 0 | 1, hj => simp at hj; subst hj; exact cell_of HBA.out 1
        case h1 => intro u hu; simp at hu; rcases hu with rfl | rfl <;> rfl
        case h63 => unfold maxLen; omega
        case hb => omega
        case hK =>
          intro g5 cap5 w5 hown5 hgrow5 hat5 hlt5
          have hf5 : Fr (BlkB (.slice ta ts.length tc)) wa w5 := (Fr.refl _ wa).grown hgrow5 (fun k hk _ => hk)
          have HNF : Hid (Fr No w w5) := (HF.out.trans HFA.out).trans2 (blk_own hf5 HOW.out)
          have HNR : Hid (w5.heap[rb]? = some (.cells curR 5 (0, 0))) := by
            refine hf5.at (HFA.out.at HRB.out (no_no _)) (fun e => ?_)
            rcases HR.out.2 with ⟨q1, _⟩ | ⟨g2, c2, cur2, q1, _, q3, _⟩
            · rw [q1] at e; cases e
            · rw [q1] at e
              have e' : g2 = rb := by have : (some g2 : Option Nat) = some rb := e; injection this
              subst e'
              have q4 := HRB.out
              rw [q3] at q4
              injection q4 with q4
              injection q4 with _ q5
              exact absurd q5 (by decide)
          have HN5 := hide hown5
          clear hown5 hgrow5 hat5 hlt5 hf5
          have HNX : Hid ((ts ++ [(sy, mr)]) ++ Pk.tellsFrom (all.drop (off + tm)) (some l0) = Pk.tells all) := by
            unfold Hid
            rw [← HE.out, HTA.out, List.append_assoc]
            rfl
          by_cases hlast : cap - off = tm
          · have hcl : cr = tm := by have := HCR.out; omega
            subst hcl
            go_wp2_with fail
            refine ⟨⟨off + cr, some ⟨rb, off, none⟩, some l0, ts ++ [(sy, mr)], ?_, ?_, ?_, ?_, ?_, HNX.out, ?_, HNR.out, HNF.out⟩, ?_⟩
            · have := HTM.out; omega
            · congr 1
              · have := HCR.out; have := HM.out; omega
              · have := HCR.out; omega
            · intro h; have := HCR.out; have := HCAP.out; omega
            · rfl
            · unfold Hid
              have := HN5.out
              rw [List.flatMap_append, List.length_append]
              simpa [wordv] using this
            · have := HLE.out; have := HTM.out; unfold Hid; rw [List.length_append, List.length_singleton]; omega
            · have := HTM.out; have := HM.out; simp [lenOf]; omega
          · have hcl : ¬ cr = tm := by have := HCR.out; omega
            go_wp2_with fail
            refine ⟨⟨off + tm, some ⟨rb, off + tm, none⟩, some l0, ts ++ [(sy, mr)], ?_, ?_, ?_, ?_, ?_, HNX.out, ?_, HNR.out, HNF.out⟩, ?_⟩
            · have := HTM.out; omega
            · congr 1
              · have := HCR.out; have := HM.out; omega
              · have := HCR.out; omega
            · intro h; rfl
            · rfl
            · unfold Hid
              have := HN5.out
              rw [List.flatMap_append, List.length_append]
              simpa [wordv] using this
            · have := HLE.out; have := HTM.out; unfold Hid; rw [List.length_append, List.length_singleton]; omega
            · have := HTM.out; have := HM.out; simp [lenOf]; omega
    · have hm0 : m = 0 := by omega
      subst hm0
      go_wp2
      go_ret
      have h1 := HE.out
      rw [List.drop_of_length_le (by rw [HALN.out]; omega), Pk.tells_nil, List.append_nil] at h1
      refine ⟨_, rfl, ?_, HF.out⟩
      rw [← h1]
      exact HR.out
end Go.Proofs.YtjjjlilflbddoaaGreatDoor
/-
  The lengths of the symbols that tell lengths.
-/
namespace Go.Proofs.YtjjjlilflbddoaaGreatDoor
open Go.RowKit Pm

/-- A row of pairs of numbers, read. -/
theorem wd_cells {w : World} {B : Nat} {e : TypeId} {v : Value} {us : List (Nat × Nat)} (h : w.ownsRow B e 2 v us.length (us.flatMap wordv)) : ∃ ao cap, v = .slice ao us.length cap ∧ ∀ k, k < us.length → ∃ g, ao = some ⟨g, 0, none⟩ ∧ B ≤ g ∧ g < w.heap.size ∧ w.cell? ⟨g, k * 2, none⟩ = some (.int .i64 ((us.getD k (0, 0)).1 : Nat)) ∧ w.cell? ⟨g, k * 2 + 1, none⟩ = some (.int .i64 ((us.getD k (0, 0)).2 : Nat)) := by
  rcases h.2 with ⟨e1, e2⟩ | ⟨g, cap, cur, e1, e2, e3, _, _, _, e4⟩
  · exact ⟨none, 0, by rw [e1, e2], fun k hk => by omega⟩
  · refine ⟨_, _, e1, fun k hk => ⟨g, rfl, e2, lt_of e3, ?_, ?_⟩⟩
    · have h0 := wvs_get us k 0 hk (by omega)
      unfold wvs at h0
      rw [List.getElem?_toArray, ← e4, List.getElem?_take_of_lt (by omega), Array.getElem?_toList, Nat.add_zero, Nat.mul_comm] at h0
      rw [cell_of e3, h0]; rfl
    · have h0 := wvs_get us k 1 hk (by omega)
      unfold wvs at h0
      rw [List.getElem?_toArray, ← e4, List.getElem?_take_of_lt (by omega), Array.getElem?_toList, Nat.mul_comm] at h0
      rw [cell_of e3, h0]; rfl
theorem ints_of {w : World} {b : Nat} {e : TypeId} {c : List Nat} (h : w.heap[b]? = some (.cells (ivs c) e (0, 0))) : IntsAt w b c := ⟨lt_of h, fun i hi => by rw [cell_of h, ivs_get hi]⟩
theorem take_map_snoc (us : List (Nat × Nat)) (f : Nat × Nat → Nat) (k : Nat) (h : k < us.length) : (us.take (k + 1)).map f = (us.take k).map f ++ [f (us.getD k (0, 0))] := by
  rw [List.take_add_one, List.map_append, List.getD, List.getElem?_eq_getElem h]; rfl
theorem count_len (Y : List Nat) (x : Nat) : Y.count x ≤ Y.length := List.count_le_length

set_option maxRecDepth 100000 in
set_option maxHeartbeats 3200000 in
theorem lensTelling_any (B : Nat) (tv : Value) (us : List (Nat × Nat)) (w : World) (h : w.ownsRow B 150 2 tv us.length (us.flatMap wordv)) (hn : us.length ≤ 400) (hu : ∀ t ∈ us, t.1 < 19) :
    Calls Tryz.prog 78 #[tv] w (BestP (Pk.telC us) 7 w) := by
  obtain ⟨ao, cap, hv, hcells⟩ := wd_cells h
  subst hv
  have HC := hide hcells
  have HU := hide hu
  obtain ⟨n, hne⟩ : ∃ n, n = us.length := ⟨_, rfl⟩
  rw [← hne] at hn ⊢
  have HNE := hide hne
  clear hcells h hu hne
  go_enter Tryz.func78, Tryz.ntmps78
  go_wp2_with fail
  obtain ⟨w1, hw1⟩ : ∃ w1, w1 = w.alloc (.cells #[.int .i64 0, .int .i64 0, .int .i64 0, .int .i64 0, .int .i64 0, .int .i64 0, .int .i64 0, .int .i64 0, .int .i64 0, .int .i64 0, .int .i64 0, .int .i64 0, .int .i64 0, .int .i64 0, .int .i64 0, .int .i64 0, .int .i64 0, .int .i64 0, .int .i64 0] 146) := ⟨_, rfl⟩
  rw [← hw1]
  have hf1 : Fr No w w1 := by rw [hw1]; exact (Fr.refl _ _).alloc _
  have hb1 : w1.heap[w.heap.size]? = some (.cells (ivs (cntL 19 [])) 146 (0, 0)) := by rw [hw1, cntL_nil]; exact alloc_at w _
  have HF1 := hide hf1
  have HB1 := hide hb1
  clear hw1 hf1 hb1
  obtain ⟨cb, hcb⟩ : ∃ cb, cb = w.heap.size := ⟨_, rfl⟩
  rw [← hcb] at HB1 ⊢
  have HCB := hide hcb
  have hcbw : ¬ cb < w.heap.size := by omega
  clear hcb
  go_loopw [8] (fun kv wr => ∃ k : Nat, k ≤ n ∧ kv = .int .i64 k ∧ Hid (wr.heap[cb]? = some (.cells (ivs (cntL 19 ((us.take k).map Prod.fst))) 146 (0, 0))) ∧ Hid (Fr No w wr)) (fun kv _ => n - (intOf kv).toNat)
  case atStart => exact ⟨0, Nat.zero_le _, rfl, HB1.out, HF1.out⟩
  case round =>
    obtain ⟨k, hk, rfl, HB, HF⟩ := hrel
    by_cases hlt : k < n
    · have hki : (k : Int) < (n : Int) := by omega
      obtain ⟨g, hao, _, hgl, c0, c1⟩ := HC.out k (by have := HNE.out; omega)
      subst hao
      have c0 := (HF.out.cell (p := ⟨g, k * 2, none⟩) hgl (no_no _)).trans c0
      have c1 := (HF.out.cell (p := ⟨g, k * 2 + 1, none⟩) hgl (no_no _)).trans c1
      have hx19 : (us.getD k (0, 0)).1 < 19 := HU.out _ (by rw [List.getD, List.getElem?_eq_getElem (by have := HNE.out; omega)]; exact List.getElem_mem _)
      have HTS := hide (take_map_snoc us Prod.fst k (by have := HNE.out; omega))
      obtain ⟨x, hx⟩ : ∃ x, x = (us.getD k (0, 0)).1 := ⟨_, rfl⟩
      obtain ⟨y, hy⟩ : ∃ y, y = (us.getD k (0, 0)).2 := ⟨_, rfl⟩
      rw [← hx] at c0 hx19 HTS
      rw [← hy] at c1
      obtain ⟨Z, hZ⟩ : ∃ Z, Z = (us.take k).map Prod.fst := ⟨_, rfl⟩
      have hZl : Z.length ≤ 400 := by rw [hZ, List.length_map, List.length_take]; have := HNE.out; omega
      rw [← hZ] at HTS
      have HBZ : Hid (wr.heap[cb]? = some (.cells (ivs (cntL 19 Z)) 146 (0, 0))) := by rw [hZ]; exact HB.out
      have hcnt := cntL_get 19 Z x hx19
      have hset := cntL_set 19 Z x hx19
      have hle := count_len Z x
      obtain ⟨cx, hcx⟩ : ∃ cx, cx = Z.count x := ⟨_, rfl⟩
      rw [← hcx] at hcnt hset hle
      obtain ⟨wa, hwa⟩ : ∃ wa, wa = wr.alloc (.cells #[.int .i64 (x : Nat), .int .i64 (y : Nat)] 150) := ⟨_, rfl⟩
      have hfa : Fr No wr wa := by rw [hwa]; exact (Fr.refl _ _).alloc _
      have hba : wa.heap[wr.heap.size]? = some (.cells #[.int .i64 (x : Nat), .int .i64 (y : Nat)] 150 (0, 0)) := by rw [hwa]; exact alloc_at wr _
      have a0 : wa.cell? ⟨wr.heap.size, 0, none⟩ = some (.int .i64 (x : Nat)) := by rw [cell_of hba]; rfl
      have hbz := hfa.at HBZ.out (no_no _)
      have hcell : wa.cell? ⟨cb, x, none⟩ = some (.int .i64 (cx : Nat)) := by rw [cell_of hbz, ivs_get (by rw [cntL_len]; exact hx19), hcnt]
      have hfz := frozen_of hbz x
      obtain ⟨cy, hcy⟩ : ∃ cy, cy = cx + 1 := ⟨_, rfl⟩
      have hcyi : (cx : Int) + 1 = (cy : Int) := by omega
      have wcy : IntKind.i64.wrap (cy : Int) = cy := wraps_i64 _ (by omega) (by omega)
      have HNW : Hid ((wa.setCell ⟨cb, x, none⟩ (.int .i64 (cy : Nat))).heap[cb]? = some (.cells (ivs (cntL 19 (Z ++ [x]))) 146 (0, 0))) := by unfold Hid; rw [set_of hbz, ivs_set, hcy, hset]
      have HNF : Hid (Fr No w (wa.setCell ⟨cb, x, none⟩ (.int .i64 (cy : Nat)))) := (HF.out.trans hfa).setCell (p := ⟨cb, x, none⟩) (fun h => absurd h hcbw) _
      have hxi : (x : Int) < 19 := by omega
      rw [hwa] at a0 hcell hfz HNW HNF
      clear hwa hfa hba hbz hcnt hset hle hcx hcy hZ hx hy hZl
      go_wp2_with fail
      refine ⟨⟨k + 1, by omega, by go_num, ?_, HNF.out⟩, by simp [intOf]; omega⟩
      unfold Hid
      rw [HTS.out]
      exact HNW.out
    · have hke : k = n := by omega
      subst hke
      have hki : ¬ (k : Int) < (k : Int) := by omega
      have htel : cntL 19 ((us.take k).map Prod.fst) = Pk.telC us := by
        rw [List.take_of_length_le (by have := HNE.out; omega)]
        rfl
      rw [htel] at HB
      have hcl : (Pk.telC us).length = 19 := by simp [Pk.telC]
      have HBE := hide (best_any cb 19 7 (Pk.telC us) wr (ints_of HB.out) (by rw [hcl]; decide) (fun i => by
        rw [Pk.cf_telC]
        split
        · unfold Pk.telCnt
          have := count_len (us.map Prod.fst) i
          rw [List.length_map] at this
          have := HNE.out
          omega
        · omega) (by omega) (by omega) (by rw [hcl]; decide))
      rw [hcl] at HBE
      clear htel hcl
      go_wp2_with fail
      refine HBE.out.mono ?_
      rintro e w2 ⟨gg, X, q1, rfl, q3, q4, q5, q6⟩
      have HR : Hid (BestP (Pk.telC us) 7 w (.returned (.slice (some ⟨gg, 0, none⟩) (Pk.telC us).length (Pk.telC us).length)) w2) := ⟨gg, X, Nat.le_trans HF.out.size q1, rfl, q3, q4, q5, HF.out.trans q6⟩
      clear q1 q3 q4 q5 q6
      go_wp2
      go_ret
      exact HR.out
end Go.Proofs.YtjjjlilflbddoaaGreatDoor
