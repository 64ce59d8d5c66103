import Derived.Test.YtjjjlilflbddoaaGreatDoorPsK
import Derived.Test.YtjjjlilflbddoaaGreatDoorPsL
import Derived.Test.YtjjjlilflbddoaaGreatDoorGPm
/-
  Two sorted rows merged in place; a row sorted.
-/
namespace Go.Proofs.YtjjjlilflbddoaaGreatDoor
open Go.RowKit Pm

theorem merge_any : ∀ sz, MergeOk sz
  | 0 => fun g n cap N a m b A P Q B w h _ _ _ _ _ hp _ _ _ _ => by omega
  | sz + 1 => fun g n cap N a m b A P Q B w hsz h hn hn2 hP hQ hp hq ha hm hb => by
    by_cases h1 : P.length = 1
    · obtain ⟨x, rfl⟩ := List.length_eq_one_iff.1 h1
      exact merge_one g n cap N a m b A Q B x w h hn hn2 hQ ha hm hb
    · by_cases h2 : Q.length = 1
      · obtain ⟨y, rfl⟩ := List.length_eq_one_iff.1 h2
        exact merge_last g n cap N a m b A P B y w h hn hn2 hP h1 ha hm hb
      · by_cases hk : (a + b) / 2 < m
        · exact merge_long sz g n cap N a m b ((a + b) / 2) A P Q B w (merge_any sz) hsz h hn hn2 hP hQ (by omega) (by omega) ha hm hb rfl hk
        · exact merge_short sz g n cap N a m b ((a + b) / 2) A P Q B w (merge_any sz) hsz h hn hn2 hP hQ (by omega) (by omega) ha hm hb rfl (by omega)
end Go.Proofs.YtjjjlilflbddoaaGreatDoor
/-
  A row sorted in blocks. Nothing of the dump is imported.
-/
namespace Go.Proofs.YtjjjlilflbddoaaGreatDoor
namespace Pm
variable {α : Type}

def chunk (s i : Nat) (xs : List (Nat × α)) : List (Nat × α) := (xs.drop (s * i)).take s
theorem chunk_low {s i p : Nat} {xs ys : List (Nat × α)} (h : s * i + s ≤ p) (e : xs.take p = ys.take p) : chunk s i xs = chunk s i ys := by
  have key : ∀ zs : List (Nat × α), chunk s i zs = ((zs.take p).drop (s * i)).take s := fun zs => by
    unfold chunk
    rw [List.drop_take, List.take_take, Nat.min_eq_left (by omega)]
  rw [key, key, e]
theorem chunk_high {s i q : Nat} {xs ys : List (Nat × α)} (h : q ≤ s * i) (e : xs.drop q = ys.drop q) : chunk s i xs = chunk s i ys := by
  have key : ∀ zs : List (Nat × α), chunk s i zs = ((zs.drop q).drop (s * i - q)).take s := fun zs => by
    unfold chunk
    rw [List.drop_drop, show q + (s * i - q) = s * i by omega]
  rw [key, key, e]
theorem chunk_mid {s i : Nat} {A M B : List (Nat × α)} (hA : A.length = s * i) (hM : M.length = s ∨ (M.length ≤ s ∧ B = [])) : chunk s i (A ++ M ++ B) = M := by
  unfold chunk
  rw [List.append_assoc, ← hA, List.drop_left]
  rcases hM with h | ⟨h, rfl⟩
  · rw [List.take_append_of_le_length (by omega), List.take_of_length_le (by omega)]
  · rw [List.append_nil, List.take_of_length_le h]
theorem chunk_len (s i : Nat) (xs : List (Nat × α)) : (chunk s i xs).length = min s (xs.length - s * i) := by unfold chunk; rw [List.length_take, List.length_drop]
/-- The first k blocks are sorted. -/
def B1 (s k : Nat) (xs : List (Nat × α)) : Prop := ∀ i, i < k → Sd (chunk s i xs)
/-- The first k blocks of twice the size are sorted, and all the smaller ones behind them. -/
def B2 (s k : Nat) (xs : List (Nat × α)) : Prop := (∀ i, i < k → Sd (chunk (2 * s) i xs)) ∧ ∀ i, 2 * k ≤ i → Sd (chunk s i xs)
theorem sd_nil : Sd ([] : List (Nat × α)) := List.Pairwise.nil
theorem b1_none (s : Nat) (xs : List (Nat × α)) : B1 s 0 xs := fun i h => by omega
/-- One block more. -/
theorem b1_next {s k : Nat} {xs M' : List (Nat × α)} (h : B1 s k xs) (hk : s * k + s ≤ xs.length) (hM : Sd M') (hl : M'.length = s) : B1 s (k + 1) (xs.take (s * k) ++ M' ++ xs.drop (s * k + s)) := fun i hi => by
  have hA : (xs.take (s * k)).length = s * k := by rw [List.length_take]; omega
  by_cases e : i = k
  · subst e
    rw [chunk_mid hA (.inl hl)]
    exact hM
  · have h1 := h i (by omega)
    rwa [chunk_low (p := s * k) (ys := xs.take (s * k) ++ M' ++ xs.drop (s * k + s)) (by
      have : s * i + s = s * (i + 1) := by rw [Nat.mul_add]; omega
      rw [this]; exact Nat.mul_le_mul_left _ (by omega)) (by rw [List.append_assoc, List.take_append_of_le_length (by omega), List.take_of_length_le (l := xs.take (s * k)) (by omega)])] at h1
/-- The last block. -/
theorem b1_last {s k : Nat} {xs M' : List (Nat × α)} (h : B1 s k xs) (hk : s * k ≤ xs.length) (hk2 : xs.length < s * k + s) (hM : Sd M') (hl : M'.length = xs.length - s * k) : B2 s 0 (xs.take (s * k) ++ M' ++ []) := by
  have hA : (xs.take (s * k)).length = s * k := by rw [List.length_take]; omega
  refine ⟨fun i h => by omega, fun i _ => ?_⟩
  rcases Nat.lt_trichotomy i k with e | e | e
  · have h1 := h i e
    rwa [chunk_low (p := s * k) (ys := xs.take (s * k) ++ M' ++ []) (by
      have : s * i + s = s * (i + 1) := by rw [Nat.mul_add]; omega
      rw [this]; exact Nat.mul_le_mul_left _ (by omega)) (by rw [List.append_nil, List.take_append_of_le_length (by omega), List.take_of_length_le (l := xs.take (s * k)) (by omega)])] at h1
  · subst e
    rw [chunk_mid hA (.inr ⟨by omega, rfl⟩)]
    exact hM
  · have : chunk s i (xs.take (s * k) ++ M' ++ []) = [] := by
      apply List.eq_nil_of_length_eq_zero
      rw [chunk_len]
      have h1 : s * (k + 1) ≤ s * i := Nat.mul_le_mul_left _ (by omega)
      rw [Nat.mul_add] at h1
      simp
      omega
    rw [this]
    exact sd_nil
/-- Two blocks merged. -/
theorem b2_next {s k : Nat} {xs M' : List (Nat × α)} (h : B2 s k xs) (hk : 2 * s * k + 2 * s ≤ xs.length) (hM : Sd M') (hl : M'.length = 2 * s) : B2 s (k + 1) (xs.take (2 * s * k) ++ M' ++ xs.drop (2 * s * k + 2 * s)) := by
  have hA : (xs.take (2 * s * k)).length = 2 * s * k := by rw [List.length_take]; omega
  refine ⟨fun i hi => ?_, fun i hi => ?_⟩
  · by_cases e : i = k
    · subst e
      rw [chunk_mid hA (.inl hl)]
      exact hM
    · have h1 := h.1 i (by omega)
      rwa [chunk_low (p := 2 * s * k) (ys := xs.take (2 * s * k) ++ M' ++ xs.drop (2 * s * k + 2 * s)) (by
        have : 2 * s * i + 2 * s = 2 * s * (i + 1) := by rw [Nat.mul_add]; omega
        rw [this]; exact Nat.mul_le_mul_left _ (by omega)) (by rw [List.append_assoc, List.take_append_of_le_length (by omega), List.take_of_length_le (l := xs.take (2 * s * k)) (by omega)])] at h1
  · have h1 := h.2 i (by omega)
    have h3 : s * (2 * (k + 1)) ≤ s * i := Nat.mul_le_mul_left _ hi
    have h4 : s * (2 * (k + 1)) = 2 * s * k + 2 * s := by rw [Nat.mul_add, Nat.mul_add, ← Nat.mul_assoc, Nat.mul_comm s 2]
    rwa [chunk_high (q := 2 * s * k + 2 * s) (ys := xs.take (2 * s * k) ++ M' ++ xs.drop (2 * s * k + 2 * s)) (by omega) (by
      rw [show 2 * s * k + 2 * s = (xs.take (2 * s * k) ++ M').length by rw [List.length_append, hA, hl], List.drop_left, List.length_append, hA, hl])] at h1
/-- The last two merged, the second one shorter maybe. -/
theorem b2_last {s k : Nat} {xs M' : List (Nat × α)} (h : B2 s k xs) (hk : 2 * s * k ≤ xs.length) (hk2 : xs.length < 2 * s * k + 2 * s) (hM : Sd M') (hl : M'.length = xs.length - 2 * s * k) : B2 (2 * s) 0 (xs.take (2 * s * k) ++ M' ++ []) := b1_last h.1 hk hk2 hM hl
/-- All is one block. -/
theorem b2_all {s : Nat} {xs : List (Nat × α)} (h : B2 s 0 xs) (hs : xs.length ≤ s) : Sd xs := by
  have h1 := h.2 0 (by omega)
  unfold chunk at h1
  rwa [Nat.mul_zero, List.drop_zero, List.take_of_length_le hs] at h1
/-- No second block behind the last pair. -/
theorem b2_rest {s k : Nat} {xs : List (Nat × α)} (h : B2 s k xs) (hk : 2 * s * k ≤ xs.length) (hk2 : xs.length ≤ 2 * s * k + s) : B2 (2 * s) 0 xs := by
  have hM : Sd (xs.drop (2 * s * k)) := by
    have h1 := h.2 (2 * k) (Nat.le_refl _)
    have e : s * (2 * k) = 2 * s * k := by rw [← Nat.mul_assoc, Nat.mul_comm s 2]
    unfold chunk at h1
    rw [e, List.take_of_length_le (by rw [List.length_drop]; omega)] at h1
    exact h1
  rcases Nat.eq_zero_or_pos s with h0 | h0
  · subst h0
    refine ⟨fun i h => by omega, fun i _ => ?_⟩
    have : chunk (2 * 0) i xs = [] := by unfold chunk; simp
    rw [this]; exact sd_nil
  · have h2 := b2_last (xs := xs) h hk (by omega) hM (by rw [List.length_drop])
    rw [List.append_nil, List.take_append_drop] at h2
    exact h2
theorem St.mid {A M M' B : List (Nat × α)} (h : St M M') : St (A ++ M ++ B) (A ++ M' ++ B) := ((St.refl A).app h).app (St.refl B)
end Pm
end Go.Proofs.YtjjjlilflbddoaaGreatDoor
/-
  A row of bundles sorted.
-/
namespace Go.Proofs.YtjjjlilflbddoaaGreatDoor
open Go.RowKit Pm

/-- The row is another order of xs, in which equals stand as they stood. -/
def StI (w : World) (g N n : Nat) (xs : List El) (P : List El → Prop) : Prop := ∃ ys, RwN w g ys N ∧ ys.length = n ∧ St xs ys ∧ P ys
theorem cut3 (ys : List El) (a b : Nat) (h : a ≤ b) : ys = ys.take a ++ (ys.drop a).take (b - a) ++ ys.drop b := by
  have h1 : ys.drop b = (ys.drop a).drop (b - a) := by rw [List.drop_drop, show a + (b - a) = b by omega]
  rw [h1, List.append_assoc, List.take_append_drop, List.take_append_drop]
theorem cut4 (ys : List El) (a m b : Nat) (h : a ≤ m) (h2 : m ≤ b) : ys = ys.take a ++ (ys.drop a).take (m - a) ++ (ys.drop m).take (b - m) ++ ys.drop b := by
  have h1 := cut3 ys a m h
  have h3 : ys.drop m = (ys.drop m).take (b - m) ++ ys.drop b := by
    have : ys.drop b = (ys.drop m).drop (b - m) := by rw [List.drop_drop, show m + (b - m) = b by omega]
    rw [this, List.take_append_drop]
  rw [List.append_assoc _ _ (ys.drop b), ← h3]
  exact h1

set_option maxRecDepth 100000 in
set_option maxHeartbeats 6400000 in
theorem stable_any (g n cap N : Nat) (xs : List El) (w : World) (h : RwN w g xs N) (hn : xs.length = n) (hn2 : n ≤ 10000) :
    Calls Tryz.prog 130 #[.slice (some ⟨g, 0, none⟩) n cap, .int .i64 n, cmpV] w fun e w' => e = .returned (.tuple #[]) ∧ StI w' g N n xs Sd ∧ Fr (One g) w w' := by
  have HI0 : Hid (StI w g N n xs (B1 20 0)) := ⟨xs, h, hn, St.refl _, b1_none _ _⟩
  clear h hn
  unfold cmpV
  go_enter Tryz.func130, Tryz.ntmps130
  go_wp2
  go_loopw [7, 8] (fun av bv wr => ∃ k : Nat, 20 * k ≤ n ∧ av = .int .i64 ((20 * k : Nat) : Int) ∧ bv = .int .i64 ((20 * k + 20 : Nat) : Int) ∧ Hid (StI wr g N n xs (B1 20 k)) ∧ Hid (Fr (One g) w wr)) (fun av _ _ => n - (intOf av).toNat)
  case atStart => exact ⟨0, Nat.zero_le _, rfl, rfl, HI0.out, Fr.refl _ _⟩
  case round =>
    obtain ⟨k, hk, rfl, rfl, HI, HF⟩ := hrel
    obtain ⟨a, ha⟩ : ∃ a, a = 20 * k := ⟨_, rfl⟩
    obtain ⟨b, hb⟩ : ∃ b, b = a + 20 := ⟨_, rfl⟩
    rw [← ha, ← hb]
    obtain ⟨ys, y1, y2, y3, y4⟩ := HI.out
    by_cases hlt : b ≤ n
    · have hlti : (b : Int) ≤ (n : Int) := by omega
      obtain ⟨bb, hbb⟩ : ∃ bb, bb = b + 20 := ⟨_, rfl⟩
      have hbi : (b : Int) + 20 = (bb : Int) := by omega
      have wbb : IntKind.i64.wrap (bb : Int) = bb := wraps_i64 _ (by omega) (by omega)
      have e := cut3 ys a b (by omega)
      have HC := hide (insertion_any g n cap N a b (ys.take a) ((ys.drop a).take (b - a)) (ys.drop b) wr (by rw [← e]; exact y1) (by rw [← e]; exact y2) (by omega) (by rw [List.length_take]; omega) (by rw [List.length_take, List.length_take, List.length_drop]; omega))
      have HY := hide (And.intro y2 (And.intro y3 y4))
      have HAB := hide (And.intro ha hb)
      have HBB := hide hbb
      clear y1 y2 y3 y4 ha hb e HI hbb
      go_wp2_with fail
      refine HC.out.mono ?_
      rintro ee w1 ⟨rfl, ⟨M', r1, r2, r3, r4⟩, f1⟩
      have HNX : Hid (StI w1 g N n xs (B1 20 (k + 1)) ∧ Fr (One g) w w1) := by
        obtain ⟨y2, y3, y4⟩ := HY.out
        obtain ⟨ha, hb⟩ := HAB.out
        have hl : M'.length = 20 := by rw [r4, List.length_take, List.length_drop]; omega
        refine ⟨⟨_, r1, ?_, ?_, ?_⟩, HF.out.trans f1⟩
        · rw [List.length_append, List.length_append, List.length_take, List.length_drop]; omega
        · refine y3.trans ?_
          have := St.mid (A := ys.take a) (B := ys.drop b) r3
          rwa [← cut3 ys a b (by omega)] at this
        · have := b1_next (xs := ys) (M' := M') y4 (by omega) r2 hl
          rwa [← ha, ← hb] at this
      clear r1 r2 r3 r4 f1 HC
      go_wp2
      refine ⟨⟨k + 1, ?_, ?_, ?_, HNX.out.1, HNX.out.2⟩, ?_⟩
      · have := HAB.out; omega
      · congr 1; have := HAB.out; omega
      · congr 1; have := HAB.out; have := HBB.out; omega
      · have := HAB.out; simp [intOf]; omega
    · have hlti : ¬ (b : Int) ≤ (n : Int) := by omega
      have e := cut3 ys a n (by omega)
      have HC := hide (insertion_any g n cap N a n (ys.take a) ((ys.drop a).take (n - a)) (ys.drop n) wr (by rw [← e]; exact y1) (by rw [← e]; exact y2) (by omega) (by rw [List.length_take]; omega) (by rw [List.length_take, List.length_take, List.length_drop]; omega))
      have HY := hide (And.intro y2 (And.intro y3 y4))
      have HAB := hide (And.intro ha (And.intro hb hk))
      clear y1 y2 y3 y4 ha hb e HI hk
      go_wp2_with fail
      refine HC.out.mono ?_
      rintro ee w1 ⟨rfl, ⟨M', r1, r2, r3, r4⟩, f1⟩
      have HNX : Hid (StI w1 g N n xs (B2 20 0) ∧ Fr (One g) w w1) := by
        obtain ⟨y2, y3, y4⟩ := HY.out
        obtain ⟨ha, hb, hk⟩ := HAB.out
        have hl : M'.length = n - a := by rw [r4, List.length_take, List.length_drop]; omega
        refine ⟨⟨_, r1, ?_, ?_, ?_⟩, HF.out.trans f1⟩
        · rw [List.length_append, List.length_append, List.length_take, List.length_drop]; omega
        · refine y3.trans ?_
          have := St.mid (A := ys.take a) (B := ys.drop n) r3
          rwa [← cut3 ys a n (by omega)] at this
        · have := b1_last (xs := ys) (M' := M') y4 (by omega) (by omega) r2 (by omega)
          rw [← ha] at this
          rwa [List.drop_of_length_le (by omega)]
      clear r1 r2 r3 r4 f1 HC HAB HY
      go_wp2_with fail
      go_loopw [6, 7, 8, 9] (fun sv _ _ _ wr => ∃ bs : Nat, 0 < bs ∧ bs ≤ 20000 ∧ sv = .int .i64 bs ∧ Hid (StI wr g N n xs (B2 bs 0)) ∧ Hid (Fr (One g) w wr)) (fun sv _ _ _ _ => n - (intOf sv).toNat)
      case atStart => exact ⟨20, by omega, by omega, rfl, HNX.out.1, HNX.out.2⟩
      case round =>
        obtain ⟨bs, hb0, hbm, rfl, HI, HF⟩ := hrel
        by_cases hlt2 : bs < n
        · obtain ⟨b2, hb2⟩ : ∃ b2, b2 = 2 * bs := ⟨_, rfl⟩
          have hlti2 : (bs : Int) < (n : Int) := by omega
          have hb2i : 2 * (bs : Int) = (b2 : Int) := by omega
          have hb2j : (bs : Int) * 2 = (b2 : Int) := by omega
          have wb2 : IntKind.i64.wrap (b2 : Int) = b2 := wraps_i64 _ (by omega) (by omega)
          have HB2 := hide hb2
          have hb20 : 0 < b2 := by omega
          have hb2n : b2 ≤ 20000 := by omega
          clear hb2
          go_wp2_with fail
          go_loopw [7, 8] (fun av bv wr => ∃ k a : Nat, Hid (a = 2 * bs * k) ∧ a ≤ n ∧ av = .int .i64 a ∧ bv = .int .i64 ((a + b2 : Nat) : Int) ∧ Hid (StI wr g N n xs (B2 bs k)) ∧ Hid (Fr (One g) w wr)) (fun av _ _ => n - (intOf av).toNat)
          case atStart => exact ⟨0, 0, rfl, Nat.zero_le _, rfl, by rw [Nat.zero_add], HI.out, HF.out⟩
          case round =>
            obtain ⟨k, a, HA, han, rfl, rfl, HI, HF⟩ := hrel
            obtain ⟨b, hb⟩ : ∃ b, b = a + b2 := ⟨_, rfl⟩
            obtain ⟨m, hm⟩ : ∃ m, m = a + bs := ⟨_, rfl⟩
            rw [← hb]
            have hmi : (a : Int) + (bs : Int) = (m : Int) := by omega
            have wm : IntKind.i64.wrap (m : Int) = m := wraps_i64 _ (by omega) (by omega)
            obtain ⟨ys, y1, y2, y3, y4⟩ := HI.out
            have hck : chunk bs (2 * k) ys = (ys.drop a).take bs := by
              unfold chunk
              rw [show bs * (2 * k) = a by rw [HA.out, ← Nat.mul_assoc, Nat.mul_comm bs 2]]
            have hck2 : chunk bs (2 * k + 1) ys = (ys.drop m).take bs := by
              unfold chunk
              rw [show bs * (2 * k + 1) = m by rw [hm, HA.out, Nat.mul_add, ← Nat.mul_assoc, Nat.mul_comm bs 2]; omega]
            have sP : Sd ((ys.drop a).take bs) := by rw [← hck]; exact y4.2 _ (Nat.le_refl _)
            have sQ : Sd ((ys.drop m).take bs) := by rw [← hck2]; exact y4.2 _ (by omega)
            have hb2e := HB2.out
            by_cases hlt3 : b ≤ n
            · have hlti3 : (b : Int) ≤ (n : Int) := by omega
              obtain ⟨b3, hb3⟩ : ∃ b3, b3 = b + b2 := ⟨_, rfl⟩
              have hb3i : (b : Int) + (b2 : Int) = (b3 : Int) := by omega
              have wb3 : IntKind.i64.wrap (b3 : Int) = b3 := wraps_i64 _ (by omega) (by omega)
              have e := cut4 ys a m b (by omega) (by omega)
              rw [show m - a = bs by omega, show b - m = bs by omega] at e
              have HC := hide (merge_any (bs + bs) g n cap N a m b (ys.take a) ((ys.drop a).take bs) ((ys.drop m).take bs) (ys.drop b) wr (by rw [List.length_take, List.length_take]; omega) (by rw [← e]; exact y1) (by rw [← e]; exact y2) (by omega) sP sQ (by rw [List.length_take, List.length_drop]; omega) (by rw [List.length_take, List.length_drop]; omega) (by rw [List.length_take]; omega) (by rw [List.length_take, List.length_drop]; omega) (by rw [List.length_take, List.length_drop]; omega))
              have HNXT : Hid (∀ w1, RwN w1 g (ys.take a ++ mrg ((ys.drop a).take bs) ((ys.drop m).take bs) ++ ys.drop b) N → StI w1 g N n xs (B2 bs (k + 1))) := fun w1 r1 => by
                have hl : (mrg ((ys.drop a).take bs) ((ys.drop m).take bs)).length = 2 * bs := by rw [mrg_len, List.length_take, List.length_take, List.length_drop, List.length_drop]; omega
                refine ⟨_, r1, ?_, ?_, ?_⟩
                · rw [List.length_append, List.length_append, hl, List.length_take, List.length_drop]; omega
                · refine y3.trans ?_
                  have := St.mid (A := ys.take a) (B := ys.drop b) (st_mrg (p := (ys.drop m).take bs) sP)
                  rw [← List.append_assoc, ← e] at this
                  exact this
                · have := b2_next (xs := ys) y4 (by rw [← HA.out]; omega) (sd_mrg sP sQ) hl
                  rwa [← HA.out, show a + 2 * bs = b by omega] at this
              have HAB := hide (And.intro hb (And.intro hm hb3))
              clear y1 y2 y3 y4 e sP sQ hck hck2 hb hm hb3 hb2e HI
              go_wp2_with fail
              refine HC.out.mono ?_
              rintro ee w1 ⟨rfl, r1, f1⟩
              have HNX2 := hide (And.intro (HNXT.out w1 r1) (HF.out.trans f1))
              clear r1 f1 HC HNXT
              go_wp2
              refine ⟨⟨k + 1, b, ?_, by omega, rfl, ?_, HNX2.out.1, HNX2.out.2⟩, ?_⟩
              · unfold Hid; have := HAB.out; have := HA.out; have := HB2.out; rw [Nat.mul_add]; omega
              · congr 1; have := HAB.out; omega
              · have := HAB.out; simp [intOf]; omega
            · have hlti3 : ¬ (b : Int) ≤ (n : Int) := by omega
              by_cases hmn : m < n
              · have hmni : (m : Int) < (n : Int) := by omega
                have e := cut4 ys a m n (by omega) (by omega)
                have hq : (ys.drop m).take (n - m) = (ys.drop m).take bs := by
                  rw [List.take_of_length_le (by rw [List.length_drop]; omega), List.take_of_length_le (by rw [List.length_drop]; omega)]
                rw [show m - a = bs by omega, hq] at e
                have HC := hide (merge_any (bs + bs) g n cap N a m n (ys.take a) ((ys.drop a).take bs) ((ys.drop m).take bs) (ys.drop n) wr (by rw [List.length_take, List.length_take]; omega) (by rw [← e]; exact y1) (by rw [← e]; exact y2) (by omega) sP sQ (by rw [List.length_take, List.length_drop]; omega) (by rw [List.length_take, List.length_drop]; omega) (by rw [List.length_take]; omega) (by rw [List.length_take, List.length_drop]; omega) (by rw [List.length_take, List.length_drop]; omega))
                have HNXT : Hid (∀ w1, RwN w1 g (ys.take a ++ mrg ((ys.drop a).take bs) ((ys.drop m).take bs) ++ ys.drop n) N → StI w1 g N n xs (B2 b2 0)) := fun w1 r1 => by
                  have hl : (mrg ((ys.drop a).take bs) ((ys.drop m).take bs)).length = n - a := by rw [mrg_len, List.length_take, List.length_take, List.length_drop, List.length_drop]; omega
                  refine ⟨_, r1, ?_, ?_, ?_⟩
                  · rw [List.length_append, List.length_append, hl, List.length_take, List.length_drop]; omega
                  · refine y3.trans ?_
                    have := St.mid (A := ys.take a) (B := ys.drop n) (st_mrg (p := (ys.drop m).take bs) sP)
                    rw [← List.append_assoc, ← e] at this
                    exact this
                  · have := b2_last (xs := ys) y4 (by rw [← HA.out]; omega) (by rw [← HA.out]; omega) (sd_mrg sP sQ) (by rw [← HA.out]; omega)
                    rw [← HA.out] at this
                    have hdn : ys.drop n = [] := List.drop_of_length_le (by omega)
                    rw [hb2e, hdn]
                    exact this
                have HAB := hide (And.intro hb hm)
                have HBE := hide hb2e
                clear y1 y2 y3 y4 e sP sQ hck hck2 hb hm hb2e hq HI
                go_wp2_with fail
                refine HC.out.mono ?_
                rintro ee w1 ⟨rfl, r1, f1⟩
                have HNX2 := hide (And.intro (HNXT.out w1 r1) (HF.out.trans f1))
                clear r1 f1 HC HNXT
                go_wp2
                refine ⟨⟨b2, hb20, hb2n, rfl, HNX2.out.1, HNX2.out.2⟩, ?_⟩
                have := HBE.out
                simp [intOf]
                omega
              · have hmni : ¬ (m : Int) < (n : Int) := by omega
                have HNX2 : Hid (StI wr g N n xs (B2 b2 0)) := ⟨ys, y1, y2, y3, by rw [hb2e]; exact b2_rest y4 (by rw [← HA.out]; omega) (by rw [← HA.out]; omega)⟩
                have HBE := hide hb2e
                have HAB := hide (And.intro hb hm)
                clear y1 y2 y3 y4 sP sQ hck hck2 hb hm hb2e HI
                go_wp2
                refine ⟨⟨b2, hb20, hb2n, rfl, HNX2.out, HF.out⟩, ?_⟩
                have := HBE.out
                simp [intOf]
                omega
        · have hlti2 : ¬ (bs : Int) < (n : Int) := by omega
          go_wp2
          go_end0
          obtain ⟨ys, y1, y2, y3, y4⟩ := HI.out
          exact ⟨rfl, ⟨ys, y1, y2, y3, b2_all y4 (by omega)⟩, HF.out⟩
end Go.Proofs.YtjjjlilflbddoaaGreatDoor
