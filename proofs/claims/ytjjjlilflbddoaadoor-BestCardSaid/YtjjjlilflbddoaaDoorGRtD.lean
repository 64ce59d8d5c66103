import Derived.Test.YtjjjlilflbddoaaDoorGRtA
import Derived.Test.YtjjjlilflbddoaaDoorGPkL
/-
  The document's own stored block.
-/
namespace Go.Proofs.YtjjjlilflbddoaaDoor
open Go.RowKit

set_option maxRecDepth 100000 in
set_option maxHeartbeats 1600000 in
theorem rDocStored_any (t : ByteArray) (w : World) (ht : t.size ≤ 1500) : Calls Tryd.prog 22 #[.string t] w fun e w' => e = .returned (.string ⟨(Pk.toBytes (Pk.packed0 t.data.toList)).toArray⟩) ∧ Fr No w w' := by
  have htl : t.data.toList.length = t.size := by simp
  have hcv : (convert 51 9 (.slice (some ⟨w.heap.size, 0, none⟩) 5 5)).run Tryd.prog (w.alloc (.cells #[.int .u8 1, .int .u8 ((t.size : Int) % 256), .int .u8 ((t.size : Int) / 256), .int .u8 ((65535 - (t.size : Int)) % 256), .int .u8 ((65535 - (t.size : Int)) / 256)] 5)) = .ok (.string ⟨(Pk.head5 t.size).toArray⟩) (w.alloc (.cells #[.int .u8 1, .int .u8 ((t.size : Int) % 256), .int .u8 ((t.size : Int) / 256), .int .u8 ((65535 - (t.size : Int)) % 256), .int .u8 ((65535 - (t.size : Int)) / 256)] 5)) := by
    refine run_convert_bytes_back _ 51 9 5 ⟨w.heap.size, 0, none⟩ 5 (Pk.head5 t.size) Tryd.underlying51 Tryd.underlying5 Tryd.underlying9 (fun j hj => ?_)
    have e4 : (⟨w.heap.size, 0, none⟩ : Addr).add j = ⟨w.heap.size, j, none⟩ := by simp only [Addr.add]; split <;> simp_all
    rw [e4, cell_of (alloc_at w _)]
    have hj5 : j < 5 := hj
    have key : ∀ (a : Int) (n : Nat), n < 256 → a = (n : Int) → Value.int IntKind.u8 a = .int .u8 ((UInt8.ofNat n).toNat : Nat) := fun a n h1 h2 => by rw [Pk.u8_back n h1, h2]
    rcases (by omega : j = 0 ∨ j = 1 ∨ j = 2 ∨ j = 3 ∨ j = 4) with rfl | rfl | rfl | rfl | rfl
    · rfl
    · exact congrArg some (key _ (t.size % 256) (by omega) (by omega))
    · exact congrArg some (key _ (t.size / 256) (by omega) (by omega))
    · exact congrArg some (key _ ((65535 - t.size) % 256) (by omega) (by omega))
    · exact congrArg some (key _ ((65535 - t.size) / 256) (by omega) (by omega))
  have hb0 := Pk.bytes_0 t.data.toList (by omega)
  rw [htl] at hb0
  have HB0 := hide hb0
  clear hb0
  obtain ⟨h5, hh5⟩ : ∃ h5, h5 = Pk.head5 t.size := ⟨_, rfl⟩
  rw [← hh5] at hcv HB0
  have h5s : (⟨h5.toArray⟩ : ByteArray).size = 5 := by rw [hh5]; rfl
  clear hh5
  go_enter Tryd.func22, Tryd.ntmps22
  go_wp2_with fail
  go_ret
  refine ⟨?_, (Fr.refl _ _).alloc _⟩
  rw [HB0.out]
  refine congrArg (fun x => Ending.returned (.string x)) ?_
  apply ByteArray.ext
  simp
set_option maxRecDepth 100000 in
set_option maxHeartbeats 1600000 in
theorem rDocUsed_any (b n : Nat) (w : World) (h : w.cell? ⟨b, 1, none⟩ = some (.int .i64 n)) (hn : n ≤ 1000000) : Calls Tryd.prog 24 #[.pointer (some ⟨b, 0, none⟩)] w fun e w' => e = .returned (.int .i64 ((n + 7) / 8 : Nat)) ∧ w' = w := by
  go_enter Tryd.func24, Tryd.ntmps24
  go_wp2_with fail
  go_ret
  exact ⟨ret_int (by go_num), rfl⟩
end Go.Proofs.YtjjjlilflbddoaaDoor
/-
  The law's own helpers: which error is asked, and two rows of tokens that are the same.
-/
namespace Go.Proofs.YtjjjlilflbddoaaDoor
open Go.RowKit

set_option maxRecDepth 100000 in
set_option maxHeartbeats 1600000 in
theorem refused_bad (t : ByteArray) (k : Int) (w : World) (h : k < 0 ∨ 2 < k) : Calls Tryd.prog 21 #[.string t, .int .i64 k] w fun e w' => e = .returned (.int .i64 11) ∧ w' = w := by
  by_cases h1 : k < 0
  · clear h
    go_enter Tryd.func21, Tryd.ntmps21
    go_wp2_with fail
    go_ret
    exact ⟨rfl, rfl⟩
  · have h2 : 2 < k := by omega
    clear h
    go_enter Tryd.func21, Tryd.ntmps21
    go_wp2_with fail
    go_ret
    exact ⟨rfl, rfl⟩
set_option maxRecDepth 100000 in
set_option maxHeartbeats 1600000 in
theorem refused_long (t : ByteArray) (k : Int) (w : World) (h1 : 0 ≤ k) (h2 : k ≤ 2) (ht : 1500 < t.size) : Calls Tryd.prog 21 #[.string t, .int .i64 k] w fun e w' => e = .returned (.int .i64 1) ∧ w' = w := by
  have g1 : ¬ k < 0 := by omega
  have g2 : ¬ 2 < k := by omega
  have hti : (1500 : Int) < (t.size : Int) := by omega
  clear h1 h2 ht
  go_enter Tryd.func21, Tryd.ntmps21
  go_wp2_with fail
  go_ret
  exact ⟨rfl, rfl⟩
set_option maxRecDepth 100000 in
set_option maxHeartbeats 1600000 in
theorem refused_no (t : ByteArray) (k : Int) (w : World) (h1 : 0 ≤ k) (h2 : k ≤ 2) (ht : t.size ≤ 1500) : Calls Tryd.prog 21 #[.string t, .int .i64 k] w fun e w' => e = .returned (.int .i64 0) ∧ w' = w := by
  have g1 : ¬ k < 0 := by omega
  have g2 : ¬ 2 < k := by omega
  have hti : ¬ (1500 : Int) < (t.size : Int) := by omega
  clear h1 h2 ht
  go_enter Tryd.func21, Tryd.ntmps21
  go_wp2_with fail
  go_ret
  exact ⟨rfl, rfl⟩
/-- A row of tokens in memory. -/
def ToksAt (w : World) (ao : Option Addr) (ts : List (Nat × Nat)) : Prop := ∀ k, k < ts.length → ∃ g, ao = some ⟨g, 0, none⟩ ∧ g < w.heap.size ∧ w.cell? ⟨g, k * 2, none⟩ = some (.int .i64 ((ts.getD k (0, 0)).1 : Nat)) ∧ w.cell? ⟨g, k * 2 + 1, none⟩ = some (.int .i64 ((ts.getD k (0, 0)).2 : Nat))

set_option maxRecDepth 100000 in
set_option maxHeartbeats 1600000 in
theorem sameTokens_any (ao bo : Option Addr) (c1 c2 : Nat) (ts : List (Nat × Nat)) (w : World) (h1 : ToksAt w ao ts) (h2 : ToksAt w bo ts) (hn : ts.length ≤ 10000) : Calls Tryd.prog 26 #[.slice ao ts.length c1, .slice bo ts.length c2] w fun e w' => e = .returned (.bool true) ∧ Fr No w w' := by
  have H1 := hide h1
  have H2 := hide h2
  obtain ⟨n, hne⟩ : ∃ n, n = ts.length := ⟨_, rfl⟩
  rw [← hne] at hn ⊢
  have HNE := hide hne
  clear h1 h2 hne
  go_enter Tryd.func26, Tryd.ntmps26
  go_wp2_with fail
  go_loopw [5] (fun iv wr => ∃ k : Nat, k ≤ n ∧ iv = .int .i64 k ∧ Hid (Fr No w wr)) (fun iv _ => n - (intOf iv).toNat)
  case atStart => exact ⟨0, Nat.zero_le _, rfl, Fr.refl _ _⟩
  case round =>
    obtain ⟨k, hk, rfl, HF⟩ := hrel
    by_cases hlt : k < n
    · have hki : (k : Int) < (n : Int) := by omega
      obtain ⟨g, rfl, hg, x0, x1⟩ := H1.out k (by have := HNE.out; omega)
      obtain ⟨g2, rfl, hg2, y0, y1⟩ := H2.out k (by have := HNE.out; omega)
      have x0 := (HF.out.cell (p := ⟨g, k * 2, none⟩) hg (no_no _)).trans x0
      have x1 := (HF.out.cell (p := ⟨g, k * 2 + 1, none⟩) hg (no_no _)).trans x1
      have y0 := (HF.out.cell (p := ⟨g2, k * 2, none⟩) hg2 (no_no _)).trans y0
      have y1 := (HF.out.cell (p := ⟨g2, k * 2 + 1, none⟩) hg2 (no_no _)).trans y1
      generalize (ts.getD k (0, 0)).1 = u at *
      generalize (ts.getD k (0, 0)).2 = v at *
      go_upto_region 6 with fail
      go_quiet (fail)
      go_wp2
      refine ⟨⟨k + 1, by omega, by go_num, HF.out.drewN _⟩, by simp [intOf]; omega⟩
    · have hke : k = n := by omega
      subst hke
      have hki : ¬ (k : Int) < (k : Int) := by omega
      go_wp2_with fail
      go_ret
      exact ⟨rfl, HF.out⟩
/-- A row of tokens that is owned. -/
theorem toks_at {w : World} {B : Nat} {ts : List (Nat × Nat)} {tv : Value} (h : w.ownsRow B 82 2 tv ts.length (ts.flatMap tokv)) : ∃ ao cap, tv = .slice ao ts.length cap ∧ ToksAt w ao ts := by
  rcases h.2 with ⟨h1, h0⟩ | ⟨g, cap, cur, hv, _, hg, hc, _, hs, ht⟩
  · exact ⟨none, 0, by rw [h1, h0], fun k hk => by omega⟩
  · refine ⟨some ⟨g, 0, none⟩, cap, hv, fun k hk => ⟨g, rfl, lt_of hg, ?_, ?_⟩⟩
    all_goals
      rw [cell_of hg, ← Array.getElem?_toList]
      have key : ∀ (l : List (Nat × Nat)) (k r : Nat), k < l.length → r < 2 → (l.flatMap tokv)[k * 2 + r]? = (tokv (l.getD k (0, 0)))[r]? := by
        intro l
        induction l with
        | nil => intro k r h; simp at h
        | cons a l ih =>
          intro k r hk hr
          rw [List.flatMap_cons]
          cases k with
          | zero => rw [List.getElem?_append_left (by simp [tokv]; omega), Nat.zero_mul, Nat.zero_add]; rfl
          | succ k =>
            rw [List.getElem?_append_right (by simp [tokv]; omega), show (k + 1) * 2 + r - (tokv a).length = k * 2 + r by simp [tokv]; omega, ih k r (by simpa using hk) hr]
            rfl
    · have h5 := key ts k 0 hk (by omega)
      rw [← ht, List.getElem?_take_of_lt (by omega)] at h5
      exact h5
    · have h5 := key ts k 1 hk (by omega)
      rw [← ht, List.getElem?_take_of_lt (by omega)] at h5
      exact h5
end Go.Proofs.YtjjjlilflbddoaaDoor
