import Derived.Test.YtjjjlilflbddoaaDoorPkQ
import Derived.Test.YtjjjlilflbddoaaDoorGPm
import Derived.BigRegion
/-
  Bundles in memory: held against each other, and swapped.
-/
namespace Go.Proofs.YtjjjlilflbddoaaDoor
open Go.RowKit

def cmpN (x y : Nat) : Int := if x < y then -1 else if y < x then 1 else 0
theorem isNaN_any (x : Nat) (w : World) : Calls Tryd.prog 152 #[.int .i64 x] w fun e w' => e = .returned (.bool false) ∧ w' = w := by
  go_enter Tryd.func152, Tryd.ntmps152
  go_wp2
  go_ret
  exact ⟨rfl, rfl⟩
theorem compare_any (x y : Nat) (w : World) : Calls Tryd.prog 136 #[.int .i64 x, .int .i64 y] w fun e w' => e = .returned (.int .i64 (cmpN x y)) ∧ w' = w := by
  have HX := hide (isNaN_any x)
  have HY := hide (isNaN_any y)
  go_enter Tryd.func136, Tryd.ntmps136
  go_wp2_with fail
  refine (HX.out _).mono ?_
  rintro e w1 ⟨rfl, rfl⟩
  go_wp2_with fail
  refine (HY.out _).mono ?_
  rintro e w1 ⟨rfl, rfl⟩
  by_cases h1 : x < y
  · have hc : cmpN x y = -1 := if_pos h1
    have h1' : (x : Int) < (y : Int) := by omega
    go_wp2
    go_ret
    exact ⟨by rw [hc]; rfl, rfl⟩
  · have h1' : ¬ (x : Int) < (y : Int) := by omega
    by_cases h2 : y < x
    · have hc : cmpN x y = 1 := by unfold cmpN; rw [if_neg h1, if_pos h2]
      have h2' : (y : Int) < (x : Int) := by omega
      go_wp2
      go_ret
      exact ⟨by rw [hc]; rfl, rfl⟩
    · have hc : cmpN x y = 0 := by unfold cmpN; rw [if_neg h1, if_neg h2]
      have h2' : ¬ (y : Int) < (x : Int) := by omega
      go_wp2
      go_ret
      exact ⟨by rw [hc]; rfl, rfl⟩
set_option maxRecDepth 100000 in
theorem byCount_any (x y : Nat) (u v : Value) (w : World) : Calls Tryd.prog 114 #[.agg #[.int .i64 x, u], .agg #[.int .i64 y, v]] w fun e w' => e = .returned (.int .i64 (cmpN x y)) ∧ Fr No w w' := by
  have HC := hide (compare_any x y)
  have HF := hide (((Fr.refl No w).alloc (.cells #[.int .i64 x, u] 188)).alloc (.cells #[.int .i64 y, v] 188))
  have hc0 : ((w.alloc (.cells #[.int .i64 x, u] 188)).alloc (.cells #[.int .i64 y, v] 188)).cell? ⟨w.heap.size, 0, none⟩ = some (.int .i64 x) := by rw [cell_of (alloc_old (alloc_at w _))]; rfl
  have hc1 : ((w.alloc (.cells #[.int .i64 x, u] 188)).alloc (.cells #[.int .i64 y, v] 188)).cell? ⟨w.heap.size + 1, 0, none⟩ = some (.int .i64 y) := by rw [cell_of (alloc2_at w _ _)]; rfl
  go_enter Tryd.func114, Tryd.ntmps114
  go_wp2_with fail
  refine (HC.out _).mono ?_
  rintro e w1 ⟨rfl, rfl⟩
  go_wp2
  go_ret
  exact ⟨rfl, HF.out⟩
end Go.Proofs.YtjjjlilflbddoaaDoor
/-
  A row of bundles; two of them change places.
-/
namespace Go.Proofs.YtjjjlilflbddoaaDoor
open Go.RowKit

/-- A bundle in memory: how often it counts, the slice of its symbols, and these. -/
abbrev El : Type := Nat × ((Option Addr × (Nat × Nat)) × List Nat)
def ed : El := (0, ((none, (0, 0)), []))
def sv (e : El) : Value := .slice e.2.1.1 e.2.1.2.1 e.2.1.2.2
/-- A row of bundles in block g. -/
structure Rw (w : World) (g : Nat) (xs : List El) (cur : Array Value) : Prop where
  blk : w.heap[g]? = some (.cells cur 188 (0, 0))
  at0 : ∀ i, i < xs.length → cur[i * 2]? = some (.int .i64 ((xs.getD i ed).1 : Nat))
  at1 : ∀ i, i < xs.length → cur[i * 2 + 1]? = some (sv (xs.getD i ed))
def swp (xs : List El) (i j : Nat) : List El := (xs.set i (xs.getD j ed)).set j (xs.getD i ed)
theorem swp_len (xs : List El) (i j : Nat) : (swp xs i j).length = xs.length := by simp [swp]
theorem swp_get (xs : List El) (i j k : Nat) (hi : i < xs.length) (hj : j < xs.length) : (swp xs i j).getD k ed = if k = j then xs.getD i ed else if k = i then xs.getD j ed else xs.getD k ed := by
  unfold swp
  rw [List.getD, List.getElem?_set]
  by_cases h1 : j = k
  · subst h1
    rw [if_pos rfl, if_pos rfl, if_pos (by simpa using hj)]; rfl
  · rw [if_neg h1, if_neg (fun e => h1 e.symm), List.getElem?_set]
    by_cases h2 : i = k
    · subst h2
      rw [if_pos rfl, if_pos rfl, if_pos hi]; rfl
    · rw [if_neg h2, if_neg (fun e => h2 e.symm), List.getD]
section
variable {w w' : World} {g : Nat} {xs : List El} {cur : Array Value}
theorem Rw.c0 (h : Rw w g xs cur) {i : Nat} (hi : i < xs.length) : w.cell? ⟨g, i * 2, none⟩ = some (.int .i64 ((xs.getD i ed).1 : Nat)) := by rw [cell_of h.blk]; exact h.at0 i hi
theorem Rw.c1 (h : Rw w g xs cur) {i : Nat} (hi : i < xs.length) : w.cell? ⟨g, i * 2 + 1, none⟩ = some (sv (xs.getD i ed)) := by rw [cell_of h.blk]; exact h.at1 i hi
theorem Rw.fz (h : Rw w g xs cur) (i : Nat) : w.frozen? ⟨g, i, none⟩ = false := frozen_of h.blk i
theorem Rw.fr (h : Rw w g xs cur) {S : Nat → Prop} (f : Fr S w w') (hs : ¬ S g) : Rw w' g xs cur := ⟨f.at h.blk hs, h.at0, h.at1⟩
theorem Rw.lt (h : Rw w g xs cur) : g < w.heap.size := lt_of h.blk
/-- The world in which two bundles have changed places. -/
def swpW (w : World) (g i j : Nat) (x y : El) : World :=
  (((w.setCell ⟨g, i * 2, none⟩ (.int .i64 (y.1 : Nat))).setCell ⟨g, i * 2 + 1, none⟩ (sv y)).setCell ⟨g, j * 2, none⟩ (.int .i64 (x.1 : Nat))).setCell ⟨g, j * 2 + 1, none⟩ (sv x)
theorem Rw.swap (h : Rw w g xs cur) {i j : Nat} (hi : i < xs.length) (hj : j < xs.length) (hij : i ≠ j) : ∃ cur', Rw (swpW w g i j (xs.getD i ed) (xs.getD j ed)) g (swp xs i j) cur' ∧ cur'.size = cur.size := by
  have h1 := set_of h.blk (i * 2) (.int .i64 ((xs.getD j ed).1 : Nat))
  have h2 := set_of h1 (i * 2 + 1) (sv (xs.getD j ed))
  have h3 := set_of h2 (j * 2) (.int .i64 ((xs.getD i ed).1 : Nat))
  have h4 := set_of h3 (j * 2 + 1) (sv (xs.getD i ed))
  have hlt : ∀ k, k < xs.length → k * 2 + 1 < cur.size := fun k hk => by
    have := h.at1 k hk
    exact (Array.getElem?_eq_some_iff.1 this).1
  have li := hlt i hi
  have lj := hlt j hj
  refine ⟨_, ⟨h4, fun k hk => ?_, fun k hk => ?_⟩, by simp⟩
  · rw [swp_len] at hk
    rw [swp_get xs i j k hi hj, Array.getElem?_setIfInBounds, if_neg (by omega), Array.getElem?_setIfInBounds]
    by_cases e1 : k = j
    · subst e1
      rw [if_pos rfl, if_pos rfl, if_pos (by simp; omega)]
    · rw [if_neg (by omega), if_neg e1, Array.getElem?_setIfInBounds, if_neg (by omega), Array.getElem?_setIfInBounds]
      by_cases e2 : k = i
      · subst e2
        rw [if_pos rfl, if_pos rfl, if_pos (by omega)]
      · rw [if_neg (by omega), if_neg e2]; exact h.at0 k hk
  · rw [swp_len] at hk
    rw [swp_get xs i j k hi hj, Array.getElem?_setIfInBounds]
    by_cases e1 : k = j
    · subst e1
      rw [if_pos rfl, if_pos rfl, if_pos (by simp; omega)]
    · rw [if_neg (by omega), if_neg e1, Array.getElem?_setIfInBounds, if_neg (by omega), Array.getElem?_setIfInBounds]
      by_cases e2 : k = i
      · subst e2
        rw [if_pos rfl, if_pos rfl, if_pos (by simp; omega)]
      · rw [if_neg (by omega), if_neg e2, Array.getElem?_setIfInBounds, if_neg (by omega)]; exact h.at1 k hk
theorem swpW_fr {S : Nat → Prop} {a : World} (f : Fr S a w) (hs : g < a.heap.size → S g) (i j : Nat) (x y : El) : Fr S a (swpW w g i j x y) := (((f.setCell hs _).setCell hs _).setCell hs _).setCell hs _
end
end Go.Proofs.YtjjjlilflbddoaaDoor
/-
  Ranges of bundles change places; neighbours are turned round.
-/
namespace Go.Proofs.YtjjjlilflbddoaaDoor
open Go.RowKit

theorem swp_app (A M B : List El) (x y : El) : swp (A ++ x :: (M ++ y :: B)) A.length (A.length + 1 + M.length) = A ++ y :: (M ++ x :: B) := by
  have e1 : (A ++ x :: (M ++ y :: B)).getD A.length ed = x := by rw [List.getD, List.getElem?_append_right (Nat.le_refl _), Nat.sub_self]; rfl
  have e2 : (A ++ x :: (M ++ y :: B)).getD (A.length + 1 + M.length) ed = y := by
    rw [List.getD, List.getElem?_append_right (by omega), show A.length + 1 + M.length - A.length = M.length + 1 by omega, List.getElem?_cons_succ, List.getElem?_append_right (Nat.le_refl _), Nat.sub_self]
    rfl
  unfold swp
  rw [e1, e2, List.set_append_right _ _ (Nat.le_refl _), Nat.sub_self, List.set_cons_zero, List.set_append_right _ _ (by omega), show A.length + 1 + M.length - A.length = M.length + 1 by omega, List.set_cons_succ, List.set_append_right _ _ (Nat.le_refl _), Nat.sub_self, List.set_cons_zero]
theorem swp_sym (xs : List El) {i j : Nat} (h : i ≠ j) : swp xs i j = swp xs j i := by
  unfold swp
  exact List.set_comm _ _ h
/-- A row, the block's shape as it was. -/
def RwN (w : World) (g : Nat) (xs : List El) (N : Nat) : Prop := ∃ cur, Rw w g xs cur ∧ cur.size = N
theorem RwN.fr {w w' : World} {g N : Nat} {xs : List El} (h : RwN w g xs N) {S : Nat → Prop} (f : Fr S w w') (hs : ¬ S g) : RwN w' g xs N := by
  obtain ⟨cur, h1, h2⟩ := h
  exact ⟨cur, h1.fr f hs, h2⟩
theorem RwN.lt {w : World} {g N : Nat} {xs : List El} (h : RwN w g xs N) : g < w.heap.size := by
  obtain ⟨cur, h1, h2⟩ := h
  exact h1.lt
theorem RwN.same {w : World} {g N : Nat} {xs ys : List El} (h : RwN w g xs N) (e : ys = xs) : RwN w g ys N := by rw [e]; exact h

theorem sr_app (A P Q M B : List El) (i : Nat) (hp : i < P.length) (hq : P.length = Q.length) :
    swp (A ++ (Q.take i ++ P.drop i) ++ M ++ (P.take i ++ Q.drop i) ++ B) (A.length + i) (A.length + P.length + M.length + i) = A ++ (Q.take (i + 1) ++ P.drop (i + 1)) ++ M ++ (P.take (i + 1) ++ Q.drop (i + 1)) ++ B
    ∧ (A ++ (Q.take i ++ P.drop i) ++ M ++ (P.take i ++ Q.drop i) ++ B).getD (A.length + i) ed = P.getD i ed ∧ (A ++ (Q.take i ++ P.drop i) ++ M ++ (P.take i ++ Q.drop i) ++ B).getD (A.length + P.length + M.length + i) ed = Q.getD i ed := by
  have hP : P.drop i = P.getD i ed :: P.drop (i + 1) := by rw [List.getD, List.getElem?_eq_getElem hp, Option.getD_some, List.drop_eq_getElem_cons hp]
  have hQ : Q.drop i = Q.getD i ed :: Q.drop (i + 1) := by rw [List.getD, List.getElem?_eq_getElem (by omega), Option.getD_some, List.drop_eq_getElem_cons (by omega)]
  have tP : P.take (i + 1) = P.take i ++ [P.getD i ed] := by rw [List.take_add_one, List.getD, List.getElem?_eq_getElem hp]; rfl
  have tQ : Q.take (i + 1) = Q.take i ++ [Q.getD i ed] := by rw [List.take_add_one, List.getD, List.getElem?_eq_getElem (by omega)]; rfl
  have lQ : (Q.take i).length = i := by rw [List.length_take]; omega
  have lP : (P.take i).length = i := by rw [List.length_take]; omega
  have lD : (P.drop (i + 1)).length = P.length - (i + 1) := List.length_drop
  have e : A ++ (Q.take i ++ P.drop i) ++ M ++ (P.take i ++ Q.drop i) ++ B = (A ++ Q.take i) ++ P.getD i ed :: ((P.drop (i + 1) ++ M ++ P.take i) ++ Q.getD i ed :: (Q.drop (i + 1) ++ B)) := by
    rw [hP, hQ]; simp
  have e2 : A ++ (Q.take (i + 1) ++ P.drop (i + 1)) ++ M ++ (P.take (i + 1) ++ Q.drop (i + 1)) ++ B = (A ++ Q.take i) ++ Q.getD i ed :: ((P.drop (i + 1) ++ M ++ P.take i) ++ P.getD i ed :: (Q.drop (i + 1) ++ B)) := by
    rw [tP, tQ]; simp
  have n1 : (A ++ Q.take i).length = A.length + i := by rw [List.length_append, lQ]
  have n2 : (A ++ Q.take i).length + 1 + (P.drop (i + 1) ++ M ++ P.take i).length = A.length + P.length + M.length + i := by
    rw [n1, List.length_append, List.length_append, lD, lP]; omega
  have hs := swp_app (A ++ Q.take i) (P.drop (i + 1) ++ M ++ P.take i) (Q.drop (i + 1) ++ B) (P.getD i ed) (Q.getD i ed)
  rw [n2, n1] at hs
  rw [e, e2]
  refine ⟨hs, ?_, ?_⟩
  · rw [← n1, List.getD, List.getElem?_append_right (Nat.le_refl _), Nat.sub_self]; rfl
  · rw [← n2, List.getD, List.getElem?_append_right (by omega), show ∀ a b : Nat, a + 1 + b - a = b + 1 from fun a b => by omega, List.getElem?_cons_succ, List.getElem?_append_right (Nat.le_refl _), Nat.sub_self]; rfl

set_option maxRecDepth 100000 in
set_option maxHeartbeats 3200000 in
theorem swapRange_any (g n cap N a b k : Nat) (A P Q M B : List El) (fv : Value) (w : World) (h : RwN w g (A ++ P ++ M ++ Q ++ B) N) (hn : (A ++ P ++ M ++ Q ++ B).length = n) (hn2 : n ≤ 100000) (hq : P.length = Q.length) (ha : A.length = a) (hb : A.length + P.length + M.length = b) (hk : P.length = k) :
    Calls Tryd.prog 158 #[.slice (some ⟨g, 0, none⟩) n cap, .int .i64 a, .int .i64 b, .int .i64 k, fv] w fun e w' => e = .returned (.tuple #[]) ∧ RwN w' g (A ++ Q ++ M ++ P ++ B) N ∧ Fr (One g) w w' := by
  have hlen : b + k ≤ n := by rw [← hn]; simp; omega
  have hab : a + k ≤ b := by omega
  have H := hide h
  have HN := hide hn
  have HQ := hide hq
  have HA := hide ha
  have HB := hide hb
  have HK := hide hk
  clear h hn hq ha hb hk
  go_enter Tryd.func158, Tryd.ntmps158
  go_wp2
  go_loopw [10] (fun iv wr => ∃ i : Nat, i ≤ k ∧ iv = .int .i64 i ∧ Hid (RwN wr g (A ++ (Q.take i ++ P.drop i) ++ M ++ (P.take i ++ Q.drop i) ++ B) N) ∧ Hid (Fr (One g) w wr)) (fun iv _ => k - (intOf iv).toNat)
  case atStart => exact ⟨0, Nat.zero_le _, rfl, by unfold Hid; simpa using H.out, Fr.refl _ _⟩
  case round =>
    obtain ⟨i, hi, rfl, HR, HF⟩ := hrel
    by_cases hlt : i < k
    · obtain ⟨s1, s2, s3⟩ := sr_app A P Q M B i (by rw [HK.out]; exact hlt) HQ.out
      obtain ⟨cur, hr, hN⟩ := HR.out
      have hxl : (A ++ (Q.take i ++ P.drop i) ++ M ++ (P.take i ++ Q.drop i) ++ B).length = n := by
        have := HN.out
        have := HQ.out
        have := HK.out
        simp at *
        omega
      obtain ⟨xs, hxs⟩ : ∃ xs, xs = A ++ (Q.take i ++ P.drop i) ++ M ++ (P.take i ++ Q.drop i) ++ B := ⟨_, rfl⟩
      rw [← hxs] at s1 s2 s3 hr hxl
      rw [HB.out] at s1 s3
      rw [HA.out] at s1 s2
      obtain ⟨p, hp⟩ : ∃ p, p = a + i := ⟨_, rfl⟩
      obtain ⟨q, hqe⟩ : ∃ q, q = b + i := ⟨_, rfl⟩
      rw [← hp, ← hqe] at s1
      rw [← hp] at s2
      rw [← hqe] at s3
      have ip : (a : Int) + (i : Int) = (p : Int) := by omega
      have iq : (b : Int) + (i : Int) = (q : Int) := by omega
      have hpn : (p : Int) < (n : Int) := by omega
      have hqn : (q : Int) < (n : Int) := by omega
      have wp : IntKind.i64.wrap (p : Int) = p := wraps_i64 _ (by omega) (by omega)
      have wq : IntKind.i64.wrap (q : Int) = q := wraps_i64 _ (by omega) (by omega)
      have hpl : p < xs.length := by omega
      have hql : q < xs.length := by omega
      have c0 := hr.c0 hpl
      have c1 := hr.c1 hpl
      have d0 := hr.c0 hql
      have d1 := hr.c1 hql
      have f0 := hr.fz (p * 2)
      have f1 := hr.fz (p * 2 + 1)
      have g0 := hr.fz (q * 2)
      have g1 := hr.fz (q * 2 + 1)
      obtain ⟨cur', hr', hN'⟩ := hr.swap hpl hql (by omega)
      rw [s1] at hr'
      have HF' := hide (swpW_fr (g := g) HF.out (fun _ => rfl) p q (xs.getD p ed) (xs.getD q ed))
      have HR' : Hid (Rw (swpW wr g p q (xs.getD p ed) (xs.getD q ed)) g (A ++ (Q.take (i + 1) ++ P.drop (i + 1)) ++ M ++ (P.take (i + 1) ++ Q.drop (i + 1)) ++ B) cur') := hr'
      obtain ⟨x, hx⟩ : ∃ x, x = xs.getD p ed := ⟨_, rfl⟩
      obtain ⟨y, hy⟩ : ∃ y, y = xs.getD q ed := ⟨_, rfl⟩
      rw [← hx] at c0 c1
      rw [← hy] at d0 d1
      rw [← hx, ← hy] at HR' HF'
      obtain ⟨x1, ⟨x2, x4, x5⟩, x3⟩ := x
      obtain ⟨y1, ⟨y2, y4, y5⟩, y3⟩ := y
      simp only [sv] at c0 c1 d0 d1
      have HNN := hide (And.intro hN hN')
      have HPI := hide hp
      have HQI := hide hqe
      clear hN hN' hr hr' s1 s2 s3 hx hy hxl hxs hpl hql hp hqe HR HF
      go_wp2_with fail
      go_region
      go_wp2
      refine ⟨⟨i + 1, by omega, by go_num, ?_, ?_⟩, by simp [intOf]; omega⟩
      · exact ⟨cur', HR'.out.fr ((Fr.refl No _).drew) (no_no _), HNN.out.2.trans HNN.out.1⟩
      · exact HF'.out.drew
    · have e : i = k := by omega
      subst e
      go_wp2
      go_end0
      refine ⟨rfl, ?_, HF.out⟩
      refine HR.out.same ?_
      rw [← HK.out, List.take_length, List.drop_length, List.append_nil, HQ.out, List.take_length, List.drop_length, List.append_nil]
end Go.Proofs.YtjjjlilflbddoaaDoor
/-
  Neighbouring ranges of bundles are turned round.
-/
namespace Go.Proofs.YtjjjlilflbddoaaDoor
open Go.RowKit

/-- What is left to be turned round: P' ahead of Q'. -/
def RotI (w : World) (g N : Nat) (A P Q B : List El) (m i j : Nat) : Prop :=
  ∃ X P' Q' Y, RwN w g (A ++ X ++ P' ++ Q' ++ Y ++ B) N ∧ P'.length = i ∧ Q'.length = j ∧ A.length + X.length + i = m ∧ X ++ Q' ++ P' ++ Y = Q ++ P

set_option maxRecDepth 100000 in
set_option maxHeartbeats 3200000 in
theorem rotate_any (g n cap N a m b : Nat) (A P Q B : List El) (fv : Value) (w : World) (h : RwN w g (A ++ P ++ Q ++ B) N) (hn : (A ++ P ++ Q ++ B).length = n) (hn2 : n ≤ 100000) (hp0 : 0 < P.length) (hq0 : 0 < Q.length) (ha : A.length = a) (hm : A.length + P.length = m) (hb : A.length + P.length + Q.length = b) :
    Calls Tryd.prog 157 #[.slice (some ⟨g, 0, none⟩) n cap, .int .i64 a, .int .i64 m, .int .i64 b, fv] w fun e w' => e = .returned (.tuple #[]) ∧ RwN w' g (A ++ Q ++ P ++ B) N ∧ Fr (One g) w w' := by
  have hmb : m ≤ b := by omega
  have ham : a ≤ m := by omega
  have hbn : b ≤ n := by rw [← hn]; simp; omega
  obtain ⟨i0, hi0⟩ : ∃ i0, i0 = P.length := ⟨_, rfl⟩
  obtain ⟨j0, hj0⟩ : ∃ j0, j0 = Q.length := ⟨_, rfl⟩
  have hma : (m : Int) - (a : Int) = (i0 : Int) := by omega
  have hbm : (b : Int) - (m : Int) = (j0 : Int) := by omega
  have wi : IntKind.i64.wrap (i0 : Int) = i0 := wraps_i64 _ (by omega) (by omega)
  have wj : IntKind.i64.wrap (j0 : Int) = j0 := wraps_i64 _ (by omega) (by omega)
  have HI : Hid (RotI w g N A P Q B m i0 j0) := ⟨[], P, Q, [], by simpa using h, hi0.symm, hj0.symm, by simp; omega, by simp⟩
  have hi1 : 0 < i0 := by omega
  have hj1 : 0 < j0 := by omega
  have HNL : Hid ((Q ++ P).length = i0 + j0) := by unfold Hid; simp; omega
  have HN := hide hn
  have HIJ := hide (And.intro (show i0 ≤ m by omega) (show m + j0 = b by omega))
  clear h hn hi0 hj0 ha hm hb hp0 hq0
  go_enter Tryd.func157, Tryd.ntmps157
  go_wp2
  go_loopw [10, 11] (fun iv jv wr => ∃ i j : Nat, 0 < i ∧ 0 < j ∧ i ≤ i0 ∧ j ≤ j0 ∧ iv = .int .i64 i ∧ jv = .int .i64 j ∧ Hid (RotI wr g N A P Q B m i j) ∧ Hid (Fr (One g) w wr)) (fun iv jv _ => (intOf iv).toNat + (intOf jv).toNat)
  case atStart => exact ⟨i0, j0, hi1, hj1, Nat.le_refl _, Nat.le_refl _, rfl, rfl, HI.out, Fr.refl _ _⟩
  case round =>
    obtain ⟨i, j, hi, hj, hil, hjl, rfl, rfl, HR, HF⟩ := hrel
    have him : i ≤ m := by have := HIJ.out.1; omega
    have hmj : m + j ≤ n := by have := HIJ.out.2; omega
    obtain ⟨X, P', Q', Y, r1, r2, r3, r4, r5⟩ := HR.out
    have hlen : (A ++ X ++ P' ++ Q' ++ Y ++ B).length = n := by
      have h1 := HN.out
      have h2 := congrArg List.length r5
      simp at h1 h2 ⊢
      omega
    obtain ⟨s, hs⟩ : ∃ s, s = m - i := ⟨_, rfl⟩
    have his : (m : Int) - (i : Int) = (s : Int) := by omega
    have ws : IntKind.i64.wrap (s : Int) = s := wraps_i64 _ (by omega) (by omega)
    by_cases hij : i = j
    · subst hij
      have hc := swapRange_any g n cap N s m i (A ++ X) P' Q' [] (Y ++ B) fv wr (by simpa using r1) (by simpa using hlen) hn2 (by omega) (by rw [List.length_append]; omega) (by rw [List.length_append]; simp; omega) r2
      have HC := hide hc
      have HE := hide r5
      clear hc r1 r2 r3 r4 r5 hlen HR hs
      go_wp2_with fail
      refine HC.out.mono ?_
      rintro e w1 ⟨rfl, h1, h2⟩
      have HH := hide (And.intro h1 (HF.out.trans h2))
      clear h1 h2
      go_wp2
      go_end0
      refine ⟨rfl, HH.out.1.same ?_, HH.out.2⟩
      have he := HE.out
      have e2 : A ++ Q ++ P ++ B = A ++ (Q ++ P) ++ B := by simp
      rw [e2, ← he]
      simp
    · have hne : ((i : Int) != (j : Int)) = true := by simp; omega
      by_cases hgt : j < i
      · have hc := swapRange_any g n cap N s m j (A ++ X) (P'.take j) Q' (P'.drop j) (Y ++ B) fv wr (by simpa using r1) (by simp at hlen ⊢; omega) hn2 (by rw [List.length_take]; omega) (by rw [List.length_append]; omega) (by simp; omega) (by rw [List.length_take]; omega)
        have hw : (i : Int) - (j : Int) = ((i - j : Nat) : Int) := by omega
        have ww : IntKind.i64.wrap ((i - j : Nat) : Int) = ((i - j : Nat) : Int) := wraps_i64 _ (by omega) (by omega)
        have HC := hide hc
        have HE := hide (And.intro r5 (And.intro r2 (And.intro r3 r4)))
        clear hc r1 r2 r3 r4 r5 hlen HR hs
        go_wp2_with fail
        refine HC.out.mono ?_
        rintro e w1 ⟨rfl, h1, h2⟩
        have HH := hide (And.intro h1 (HF.out.trans h2))
        clear h1 h2
        go_wp2
        obtain ⟨e1, e2, e3, e4⟩ := HE.out
        refine ⟨⟨i - j, j, by omega, hj, by omega, hjl, rfl, rfl, ⟨X ++ Q', P'.drop j, P'.take j, Y, HH.out.1.same (by simp), by rw [List.length_drop]; omega, by rw [List.length_take]; omega, by rw [List.length_append]; omega, ?_⟩, HH.out.2⟩, by simp [intOf]; omega⟩
        rw [← e1, List.append_assoc (X ++ Q') (P'.take j), List.take_append_drop]
      · have hlt : i < j := by omega
        obtain ⟨q, hq⟩ : ∃ q, q = m + j - i := ⟨_, rfl⟩
        obtain ⟨mj, hmje⟩ : ∃ mj, mj = m + j := ⟨_, rfl⟩
        have hqi2 : (m : Int) + (j : Int) = (mj : Int) := by omega
        have hqi3 : (mj : Int) - (i : Int) = (q : Int) := by omega
        have wq : IntKind.i64.wrap (q : Int) = q := wraps_i64 _ (by omega) (by omega)
        have wq2 : IntKind.i64.wrap (mj : Int) = (mj : Int) := wraps_i64 _ (by omega) (by omega)
        have HMJ := hide hmje
        clear hmje
        have hc := swapRange_any g n cap N s q i (A ++ X) P' (Q'.drop (j - i)) (Q'.take (j - i)) (Y ++ B) fv wr (by
          have : Q' = Q'.take (j - i) ++ Q'.drop (j - i) := (List.take_append_drop _ _).symm
          rw [this] at r1
          simpa using r1) (by simp at hlen ⊢; omega) hn2 (by rw [List.length_drop]; omega) (by rw [List.length_append]; omega) (by simp; omega) r2
        have hw : (j : Int) - (i : Int) = ((j - i : Nat) : Int) := by omega
        have ww : IntKind.i64.wrap ((j - i : Nat) : Int) = ((j - i : Nat) : Int) := wraps_i64 _ (by omega) (by omega)
        have HC := hide hc
        have HE := hide (And.intro r5 (And.intro r2 (And.intro r3 r4)))
        have HQE := hide hq
        clear hc r1 r2 r3 r4 r5 hlen HR hs hq
        go_wp2_with fail
        refine HC.out.mono ?_
        rintro e w1 ⟨rfl, h1, h2⟩
        have HH := hide (And.intro h1 (HF.out.trans h2))
        clear h1 h2
        go_wp2
        obtain ⟨e1, e2, e3, e4⟩ := HE.out
        refine ⟨⟨i, j - i, hi, by omega, hil, by omega, rfl, rfl, ⟨X, Q'.drop (j - i), Q'.take (j - i), P' ++ Y, HH.out.1.same (by simp), by rw [List.length_drop]; omega, by rw [List.length_take]; omega, e4, ?_⟩, HH.out.2⟩, by simp [intOf]; omega⟩
        rw [← e1, List.append_assoc X (Q'.take (j - i)), List.take_append_drop, ← List.append_assoc]
end Go.Proofs.YtjjjlilflbddoaaDoor
/-
  Bundles sorted by insertion.
-/
namespace Go.Proofs.YtjjjlilflbddoaaDoor
open Go.RowKit Pm

/-- Two bundles as they are read. -/
def Rd2 (g i j : Nat) (x y : El) (W : World) : Prop := (W.cell? ⟨g, i * 2, none⟩ = some (.int .i64 (x.1 : Nat)) ∧ W.cell? ⟨g, i * 2 + 1, none⟩ = some (.slice x.2.1.1 x.2.1.2.1 x.2.1.2.2)) ∧ (W.cell? ⟨g, j * 2, none⟩ = some (.int .i64 (y.1 : Nat)) ∧ W.cell? ⟨g, j * 2 + 1, none⟩ = some (.slice y.2.1.1 y.2.1.2.1 y.2.1.2.2))
theorem Rd2.fr {g i j : Nat} {x y : El} {W W' : World} (h : Rd2 g i j x y W) (hg : g < W.heap.size) (f : Fr No W W') : Rd2 g i j x y W' :=
  ⟨⟨(f.cell (p := ⟨g, _, none⟩) hg (no_no _)).trans h.1.1, (f.cell (p := ⟨g, _, none⟩) hg (no_no _)).trans h.1.2⟩, ⟨(f.cell (p := ⟨g, _, none⟩) hg (no_no _)).trans h.2.1, (f.cell (p := ⟨g, _, none⟩) hg (no_no _)).trans h.2.2⟩⟩
theorem Rw.rd2 {w : World} {g : Nat} {xs : List El} {cur : Array Value} (h : Rw w g xs cur) {i j : Nat} (hi : i < xs.length) (hj : j < xs.length) : Rd2 g i j (xs.getD i ed) (xs.getD j ed) w := ⟨⟨h.c0 hi, h.c1 hi⟩, ⟨h.c0 hj, h.c1 hj⟩⟩
def cmpV : Value := .func (.func 114) #[] #[]
/-- Which is the less. -/
theorem less_any (x y : Nat) (u v : Value) : ∃ c : Int, decide (c < 0) = decide (x < y) ∧ ∀ w, Calls Tryd.prog 114 #[.agg #[.int .i64 x, u], .agg #[.int .i64 y, v]] w fun e w' => e = .returned (.int .i64 c) ∧ Fr No w w' := by
  refine ⟨cmpN x y, ?_, fun w => byCount_any x y u v w⟩
  unfold cmpN
  by_cases h1 : x < y
  · rw [if_pos h1]; simp [h1]
  · rw [if_neg h1]
    by_cases h2 : y < x
    · rw [if_pos h2]; simp [h1]
    · rw [if_neg h2]; simp [h1]
/-- The inner round: x goes down among those that are sorted. -/
def InsI (w : World) (g N : Nat) (A B S R : List El) (x : El) (a j : Nat) : Prop :=
  ∃ S1 S2, S1 ++ S2 = S ∧ S1.length = j ∧ (∀ y ∈ S2, x.1 < y.1) ∧ RwN w g (A ++ S1 ++ x :: (S2 ++ (R ++ B))) N ∧ A.length = a
theorem InsI.no {w w' : World} {g N : Nat} {A B S R : List El} {x : El} {a j : Nat} (h : InsI w g N A B S R x a j) (f : Fr No w w') : InsI w' g N A B S R x a j := by
  obtain ⟨S1, S2, h1, h2, h3, h4, h5⟩ := h
  exact ⟨S1, S2, h1, h2, h3, h4.fr f (no_no _), h5⟩
/-- The outer round. -/
def InsO (w : World) (g N : Nat) (A M B : List El) (k : Nat) : Prop := ∃ S R, RwN w g (A ++ S ++ (R ++ B)) N ∧ S.length = min k M.length ∧ Sd S ∧ St M (S ++ R) ∧ S.length + R.length = M.length
theorem ins_start {w : World} {g N : Nat} {A M B : List El} (h : RwN w g (A ++ M ++ B) N) : InsO w g N A M B 1 := by
  cases M with
  | nil => exact ⟨[], [], by simpa using h, by simp, List.Pairwise.nil, St.refl _, rfl⟩
  | cons x M => exact ⟨[x], M, by simpa using h, by simp, by simp [Sd], St.refl _, by simp; omega⟩
theorem ins_end {w : World} {g N : Nat} {A M B : List El} {k : Nat} (h : InsO w g N A M B k) (hk : M.length ≤ k) : ∃ M', RwN w g (A ++ M' ++ B) N ∧ Sd M' ∧ St M M' ∧ M'.length = M.length := by
  obtain ⟨S, R, h1, h2, h3, h4, h5⟩ := h
  have hR : R = [] := List.eq_nil_of_length_eq_zero (by omega)
  subst hR
  rw [List.append_nil] at h4
  exact ⟨S, by simpa using h1, h3, h4, by omega⟩
/-- Where it is found. -/
theorem ins_done {w : World} {g N : Nat} {A M B S R : List El} {x : El} {a j k : Nat} (h : InsI w g N A B S R x a j) (hS : Sd S) (hst : St M (S ++ x :: R)) (hl : S.length = k) (hl2 : S.length + (R.length + 1) = M.length) (hlast : ∀ S1 y S2, S1 ++ y :: S2 = S → S1.length + 1 = j → y.1 ≤ x.1) : InsO w g N A M B (k + 1) := by
  obtain ⟨S1, S2, e, h1, h2, h3, h4⟩ := h
  subst e
  have hS' := List.pairwise_append.1 hS
  have hle : ∀ y ∈ S1, y.1 ≤ x.1 := fun y hy => by
    rcases S1.eq_nil_or_concat with hn | ⟨L, b, hb⟩
    · rw [hn] at hy; simp at hy
    · rw [List.concat_eq_append] at hb
      have hbx := hlast L b S2 (by rw [hb]; simp) (by rw [← h1, hb]; simp)
      rw [hb] at hy
      rcases List.mem_append.1 hy with hy | hy
      · have hs1 := hS'.1
        rw [hb] at hs1
        have := (List.pairwise_append.1 hs1).2.2 y hy b (by simp)
        omega
      · rw [List.mem_singleton.1 hy]; exact hbx
  refine ⟨S1 ++ x :: S2, R, by simpa using h3, ?_, ?_, ?_, ?_⟩
  · simp at hl hl2 ⊢; omega
  · refine List.pairwise_append.2 ⟨hS'.1, List.pairwise_cons.2 ⟨fun y hy => Nat.le_of_lt (h2 y hy), hS'.2.1⟩, fun y hy z hz => ?_⟩
    rcases List.mem_cons.1 hz with rfl | hz
    · exact hle y hy
    · exact hS'.2.2 y hy z hz
  · refine hst.trans ?_
    have h5 : St (S2 ++ [x]) ([x] ++ S2) := St.swap (fun y hy z hz => by rw [List.mem_singleton.1 hz]; have := h2 y hy; omega)
    have h6 := ((St.refl S1).app h5).app (St.refl R)
    simpa using h6
  · simp at hl2 ⊢; omega
/-- One place down. -/
theorem ins_step {w : World} {g N : Nat} {A B S R : List El} {x : El} {a j : Nat} (h : InsI w g N A B S R x a (j + 1)) : ∃ y cur, (∃ xs, Rw w g xs cur ∧ cur.size = N ∧ xs.length = A.length + S.length + 1 + (R.length + B.length) ∧ xs.getD (a + j + 1) ed = x ∧ xs.getD (a + j) ed = y ∧ (x.1 < y.1 → ∀ w', RwN w' g (swp xs (a + j + 1) (a + j)) N → InsI w' g N A B S R x a j)) ∧ ∀ S1 z S2, S1 ++ z :: S2 = S → S1.length + 1 = j + 1 → z = y := by
  obtain ⟨S1, S2, e, h1, h2, ⟨cur, h3, hN⟩, h4⟩ := h
  rcases S1.eq_nil_or_concat with hn | ⟨L, y, hb⟩
  · rw [hn] at h1; simp at h1
  · rw [List.concat_eq_append] at hb
    subst hb
    have hL : L.length = j := by simpa using h1
    have e1 : A ++ (L ++ [y]) ++ x :: (S2 ++ (R ++ B)) = (A ++ L) ++ y :: ([] ++ x :: (S2 ++ (R ++ B))) := by simp
    refine ⟨y, cur, ⟨A ++ (L ++ [y]) ++ x :: (S2 ++ (R ++ B)), h3, hN, ?_, ?_, ?_, fun hxy w' hr => ?_⟩, fun T1 z T2 e2 e3 => ?_⟩
    · rw [← e]; simp; omega
    · rw [e1, List.getD, List.getElem?_append_right (by simp; omega), show a + j + 1 - (A ++ L).length = 1 by simp; omega]; rfl
    · rw [e1, List.getD, List.getElem?_append_right (by simp; omega), show a + j - (A ++ L).length = 0 by simp; omega]; rfl
    · have hs := swp_app (A ++ L) [] (S2 ++ (R ++ B)) y x
      rw [e1, swp_sym _ (by omega), show a + j + 1 = (A ++ L).length + 1 + ([] : List El).length by simp; omega, show a + j = (A ++ L).length by simp; omega, hs] at hr
      refine ⟨L, y :: S2, by rw [← e]; simp, hL, fun z hz => ?_, hr.same (by simp), h4⟩
      rcases List.mem_cons.1 hz with rfl | hz
      · exact hxy
      · exact h2 z hz
    · rw [← e] at e2
      have e4 : T1 ++ z :: T2 = L ++ y :: S2 := by rw [e2]; simp
      have := List.append_inj e4 (by omega)
      have h6 := this.2
      injection h6
theorem ins_in {w : World} {g N : Nat} {A M B : List El} {k a : Nat} (h : InsO w g N A M B k) (hk : k < M.length) (ha : A.length = a) : ∃ S x R, InsI w g N A B S R x a k ∧ Sd S ∧ St M (S ++ x :: R) ∧ S.length = k ∧ S.length + (R.length + 1) = M.length := by
  obtain ⟨S, R, h1, h2, h3, h4, h5⟩ := h
  have hS : S.length = k := by omega
  cases R with
  | nil => simp at h5; omega
  | cons x R =>
    exact ⟨S, x, R, ⟨S, [], by simp, hS, fun y h => by simp at h, by simpa using h1, ha⟩, h3, h4, hS, by simpa using h5⟩
end Go.Proofs.YtjjjlilflbddoaaDoor
