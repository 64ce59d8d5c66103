import Derived.Test.YtjjjlilflbddoaaDoorGPsM
import Derived.Lib.AppendZeros
/-
  slices.Grow from nothing; slices.Concat of two.
-/
namespace Go.Proofs.YtjjjlilflbddoaaDoor
open Go.RowKit Pm

/-- Nothing appended. -/
theorem run_append_zero {P : Program} (w : World) (t ty e : TypeId) (i : TypeInfo) (ht : P.underlying t = some (.slice e)) (hi : P.info? e = some i) (ao ao2 : Option Addr) (n cap cap2 : Nat) (hn : n ≤ cap) :
    (Builtin.append_ #[t, t] ty #[.slice ao n cap, .slice ao2 0 cap2]).run P w = .ok (.slice ao n cap) w := by
  cases ao <;> cases ao2 <;> simp [Builtin.append_, run_underlying ht, sizeOf, typeInfo, hi, Builtin.lenOf, Builtin.firstCells, loadCells, loadCellsFrom, storeCells, hn]
/-- A slice that is read: its cells. -/
structure SlIn (w : World) (size : Nat) (v : Value) (n : Nat) (xs : List Value) : Prop where
  len : xs.length = n * size
  one : ∀ u ∈ xs, u.oneCell' = true
  at_ : ∃ ao cap, v = .slice ao n cap ∧ (n = 0 ∨ ∃ ad, ao = some ad ∧ ad.block < w.heap.size ∧ ∀ j u, xs[j]? = some u → w.cell? (ad.add j) = some u)
theorem SlIn.fr {S : Nat → Prop} {w w' : World} {size : Nat} {v : Value} {n : Nat} {xs : List Value} (h : SlIn w size v n xs) (f : Fr S w w') (hs : ∀ g, v.ownBlock = some g → ¬ S g) : SlIn w' size v n xs := by
  obtain ⟨ao, cap, hv, hr⟩ := h.at_
  refine ⟨h.len, h.one, ao, cap, hv, ?_⟩
  rcases hr with h0 | ⟨ad, e1, e2, e3⟩
  · exact .inl h0
  · refine .inr ⟨ad, e1, Nat.lt_of_lt_of_le e2 f.size, fun j u hj => ?_⟩
    have hb : (ad.add j).block = ad.block := by unfold Addr.add; split <;> rfl
    rw [f.cell (p := ad.add j) (by rw [hb]; exact e2) (by rw [hb]; exact hs _ (by rw [hv, e1]; rfl))]
    exact e3 j u hj
theorem slin_of {w : World} {B size n : Nat} {e : TypeId} {v : Value} {xs : List Value} (h : w.ownsRow B e size v n xs) (h1 : ∀ u ∈ xs, u.oneCell' = true) : SlIn w size v n xs := by
  refine ⟨h.1, h1, ?_⟩
  rcases h.2 with ⟨e1, e2⟩ | ⟨g, cap, cur, e1, _, e3, _, _, _, e4⟩
  · exact ⟨none, 0, by rw [e1, e2], .inl e2⟩
  · refine ⟨_, _, e1, .inr ⟨_, rfl, lt_of e3, fun j u hj => ?_⟩⟩
    have hc : (⟨g, 0, none⟩ : Addr).add j = ⟨g, j, none⟩ := by simp [Addr.add]; omega
    rw [hc, cell_of e3]
    have hjl : j < n * size := by
      rcases Nat.lt_or_ge j xs.length with h2 | h2
      · rw [← h.1]; exact h2
      · rw [List.getElem?_eq_none h2] at hj; cases hj
    rw [← e4, List.getElem?_take_of_lt hjl, Array.getElem?_toList] at hj
    exact hj
theorem orow_form {w : World} {B n z : Nat} {e : TypeId} {v : Value} {xs : List Value} (h : w.ownsRow B e z v n xs) : ∃ ao cap, v = .slice ao n cap ∧ n ≤ cap := by
  rcases h.2 with ⟨h, h0⟩ | ⟨g, cap, cur, h, _, _, h2, _⟩
  · exact ⟨none, 0, by rw [h, h0], by omega⟩
  · exact ⟨_, _, h, h2⟩

theorem cinfoB : (Tryd.prog.info? 188).map (fun i => (i.zero, i.size, i.bytes)) = some (some (.agg #[.int .i64 0, .slice none 0 0]), 2, 32) := by kernel_rfl
set_option maxRecDepth 100000 in
set_option maxHeartbeats 1600000 in
theorem growB_any (n : Nat) (w : World) (hn : n ≤ 1000000) :
    Calls Tryd.prog 133 #[.slice none 0 0, .int .i64 n] w fun e w' => ∃ v, e = .returned v ∧ w'.ownsRow w.heap.size 188 2 v 0 [] ∧ Fr No w w' := by
  obtain ⟨i0, hi, hz0, hz1, hz2⟩ := info_parts cinfoB
  by_cases h0 : n = 0
  · subst h0
    go_enter Tryd.func133, Tryd.ntmps133
    go_wp2
    go_ret
    exact ⟨_, rfl, ⟨rfl, .inl ⟨rfl, rfl⟩⟩, Fr.refl _ _⟩
  · have hr := Lib.run_append_nil_zeros (P := Tryd.prog) w 185 3 185 188 i0 _ .i64 .i64 Tryd.underlying185 Tryd.underlying3 hi hz0 n (by omega) (by rw [hz1]; decide) (by omega) (by rw [hz2]; omega)
    have hge := grownCap_ge w n 0 188
    have hle := grownCap_le_maxLen w n 0 188 (by unfold maxLen; omega)
    obtain ⟨c, hc⟩ : ∃ c, c = grownCap w n 0 188 := ⟨_, rfl⟩
    rw [← hc] at hr hge hle
    have hn0 : (0 : Int) < (n : Int) := by omega
    have hc0 : (0 : Int) ≤ (c : Int) := by omega
    have HR := hide hr
    have HGE := hide hge
    have HLE := hide hle
    have HI := hide (And.intro hz1 hz2)
    clear hr hge hle hc h0 hz1 hz2 hz0 hi
    go_enter Tryd.func133, Tryd.ntmps133
    go_wp2_with (at_builtin; refine Lib.wpList_append_run _ rfl _ _ _ _ rfl _ _ rfl rfl _ _ HR.out ?_)
    go_wp2
    go_ret
    refine ⟨_, rfl, ⟨rfl, .inr ⟨w.heap.size, c, _, rfl, Nat.le_refl _, alloc_at w.drew _, Nat.zero_le _, HLE.out, ?_, by simp⟩⟩, ((Fr.refl No w).drew).alloc _⟩
    have := HGE.out
    rw [Array.size_append, size_zeroCells, size_zeroCells, ← Nat.add_mul]
    show (n + (c - n)) * 2 = c * 2
    rw [show n + (c - n) = c by omega]

theorem cinfoI : (Tryd.prog.info? 3).map (fun i => (i.zero, i.size, i.bytes)) = some (some (.int .i64 0), 1, 8) := by kernel_rfl
set_option maxRecDepth 100000 in
set_option maxHeartbeats 1600000 in
theorem growI_any (n : Nat) (w : World) (hn : n ≤ 1000000) :
    Calls Tryd.prog 149 #[.slice none 0 0, .int .i64 n] w fun e w' => ∃ v, e = .returned v ∧ w'.ownsRow w.heap.size 3 1 v 0 [] ∧ Fr No w w' := by
  obtain ⟨i0, hi, hz0, hz1, hz2⟩ := info_parts cinfoI
  by_cases h0 : n = 0
  · subst h0
    go_enter Tryd.func149, Tryd.ntmps149
    go_wp2
    go_ret
    exact ⟨_, rfl, ⟨rfl, .inl ⟨rfl, rfl⟩⟩, Fr.refl _ _⟩
  · have hr := Lib.run_append_nil_zeros (P := Tryd.prog) w 30 3 30 3 i0 _ .i64 .i64 Tryd.underlying30 Tryd.underlying3 hi hz0 n (by omega) (by rw [hz1]; decide) (by omega) (by rw [hz2]; omega)
    have hge := grownCap_ge w n 0 3
    have hle := grownCap_le_maxLen w n 0 3 (by unfold maxLen; omega)
    obtain ⟨c, hc⟩ : ∃ c, c = grownCap w n 0 3 := ⟨_, rfl⟩
    rw [← hc] at hr hge hle
    have hn0 : (0 : Int) < (n : Int) := by omega
    have hc0 : (0 : Int) ≤ (c : Int) := by omega
    have HR := hide hr
    have HGE := hide hge
    have HLE := hide hle
    have HI := hide (And.intro hz1 hz2)
    clear hr hge hle hc h0 hz1 hz2 hz0 hi
    go_enter Tryd.func149, Tryd.ntmps149
    go_wp2_with (at_builtin; refine Lib.wpList_append_run _ rfl _ _ _ _ rfl _ _ rfl rfl _ _ HR.out ?_)
    go_wp2
    go_ret
    refine ⟨_, rfl, ⟨rfl, .inr ⟨w.heap.size, c, _, rfl, Nat.le_refl _, alloc_at w.drew _, Nat.zero_le _, HLE.out, ?_, by simp⟩⟩, ((Fr.refl No w).drew).alloc _⟩
    have := HGE.out
    rw [Array.size_append, size_zeroCells, size_zeroCells, ← Nat.add_mul]
    show (n + (c - n)) * 1 = c * 1
    rw [show n + (c - n) = c by omega]

theorem cinfoU : (Tryd.prog.info? 5).map (fun i => (i.zero, i.size, i.bytes)) = some (some (.int .u8 0), 1, 1) := by kernel_rfl
set_option maxRecDepth 100000 in
set_option maxHeartbeats 1600000 in
theorem growU_any (n : Nat) (w : World) (hn : n ≤ 1000000) :
    Calls Tryd.prog 137 #[.slice none 0 0, .int .i64 n] w fun e w' => ∃ v, e = .returned v ∧ w'.ownsRow w.heap.size 5 1 v 0 [] ∧ Fr No w w' := by
  obtain ⟨i0, hi, hz0, hz1, hz2⟩ := info_parts cinfoU
  by_cases h0 : n = 0
  · subst h0
    go_enter Tryd.func137, Tryd.ntmps137
    go_wp2
    go_ret
    exact ⟨_, rfl, ⟨rfl, .inl ⟨rfl, rfl⟩⟩, Fr.refl _ _⟩
  · have hr := Lib.run_append_nil_zeros (P := Tryd.prog) w 51 3 51 5 i0 _ .i64 .i64 Tryd.underlying51 Tryd.underlying3 hi hz0 n (by omega) (by rw [hz1]; decide) (by omega) (by rw [hz2]; omega)
    have hge := grownCap_ge w n 0 5
    have hle := grownCap_le_maxLen w n 0 5 (by unfold maxLen; omega)
    obtain ⟨c, hc⟩ : ∃ c, c = grownCap w n 0 5 := ⟨_, rfl⟩
    rw [← hc] at hr hge hle
    have hn0 : (0 : Int) < (n : Int) := by omega
    have hc0 : (0 : Int) ≤ (c : Int) := by omega
    have HR := hide hr
    have HGE := hide hge
    have HLE := hide hle
    have HI := hide (And.intro hz1 hz2)
    clear hr hge hle hc h0 hz1 hz2 hz0 hi
    go_enter Tryd.func137, Tryd.ntmps137
    go_wp2_with (at_builtin; refine Lib.wpList_append_run _ rfl _ _ _ _ rfl _ _ rfl rfl _ _ HR.out ?_)
    go_wp2
    go_ret
    refine ⟨_, rfl, ⟨rfl, .inr ⟨w.heap.size, c, _, rfl, Nat.le_refl _, alloc_at w.drew _, Nat.zero_le _, HLE.out, ?_, by simp⟩⟩, ((Fr.refl No w).drew).alloc _⟩
    have := HGE.out
    rw [Array.size_append, size_zeroCells, size_zeroCells, ← Nat.add_mul]
    show (n + (c - n)) * 1 = c * 1
    rw [show n + (c - n) = c by omega]
end Go.Proofs.YtjjjlilflbddoaaDoor
/-
  slices.Concat of two.
-/
namespace Go.Proofs.YtjjjlilflbddoaaDoor
open Go.RowKit Pm

/-- What an append or a sort may change: the row's block. -/
def BlkB (v : Value) : Nat → Prop := fun k => v.ownBlock = some k
theorem blk_own {w0 w w' : World} {B n z : Nat} {e : TypeId} {v : Value} {xs : List Value} (f : Fr (BlkB v) w w') (h : w0.ownsRow B e z v n xs) : Fr (Own B []) w w' := f.mono (fun k _ hk => ⟨(wrow_lt h hk).1, by simp⟩)
theorem Fr.trans2 {w w1 w2 : World} (h : Fr No w w1) (k : Fr (Own w.heap.size []) w1 w2) : Fr No w w2 :=
  ⟨k.os.trans h.os, k.tape.trans h.tape, k.output.trans h.output, Nat.le_trans h.size k.size, fun b hb _ => (k.block b (Nat.lt_of_lt_of_le hb h.size) (fun e => by have := e.1; omega)).trans (h.block b hb (no_no _))⟩

/-- One more appended. -/
theorem appB {P : Program} (hP : P = Tryd.prog) (w : World) {ops : Array Oper} {rest : List Oper} {o : Oper} {a : Act} {Q : Exit → Act → World → Prop} (hgd : o.guard = none) (s x : Operand) (ho : o.op = .call { callee := .builtin .append, args := #[s, x], argTypes := #[185, 185] })
    (B n m : Nat) (v vx : Value) (xs news : List Value) (hs : a.eval s = v) (hx : a.eval x = vx) (hown : w.ownsRow B 188 2 v n xs) (hin : SlIn w 2 vx m news) (hnm : n + m ≤ 100000) (hB : B ≤ w.heap.size)
    (h : ∀ v' w', w'.ownsRow B 188 2 v' (n + m) (xs ++ news) → Fr (BlkB v) w w' → wpList P ops Q rest (a.put o.dst v') w') : wpList P ops Q (o :: rest) a w := by
  subst hP
  obtain ⟨i0, hi, hz0, hz1, hz2⟩ := info_parts cinfoB
  obtain ⟨ao, cap, hvx, hr⟩ := hin.at_
  rcases Nat.eq_zero_or_pos m with h0 | h0
  · subst h0
    obtain ⟨av, cv, hv, hle⟩ := orow_form hown
    have hz : news = [] := List.eq_nil_of_length_eq_zero (by have := hin.len; omega)
    refine Lib.wpList_append_run w hgd s x 185 185 ho v vx hs hx v w (by rw [hv, hvx]; exact run_append_zero w 185 o.type 188 i0 Tryd.underlying185 hi av ao n cv cap hle) (h v w ?_ (Fr.refl _ _))
    rw [hz, List.append_nil]
    exact hown
  · rcases hr with e | ⟨ad, e1, e2, e3⟩
    · omega
    · subst e1
      refine wpList_append_lies w hgd s x 185 ho B 188 i0 _ 2 32 Tryd.underlying185 hi hz0 hz1 hz2 rfl (by decide) v n xs hs hown ad m cap news (by rw [hx, hvx]) hin.len e3 hin.one h0 (by unfold maxLen; omega) (by omega) hB _ rfl ?_
      intro g c w' r1 r2 r3 r4
      exact h _ w' r1 ((Fr.refl (BlkB v) w).grown r2 (fun k hk _ => hk))
set_option maxRecDepth 100000 in
set_option maxHeartbeats 3200000 in
theorem concatB_any (n1 n2 sb cap : Nat) (v1 v2 : Value) (xs1 xs2 : List Value) (w : World) (h1 : SlIn w 2 v1 n1 xs1) (h2 : SlIn w 2 v2 n2 xs2) (hb : w.heap[sb]? = some (.cells #[v1, v2] 185 (0, 0))) (hn : n1 + n2 ≤ 100000) :
    Calls Tryd.prog 111 #[.slice (some ⟨sb, 0, none⟩) 2 cap] w fun e w' => ∃ v, e = .returned v ∧ w'.ownsRow w.heap.size 188 2 v (n1 + n2) (xs1 ++ xs2) ∧ Fr No w w' := by
  obtain ⟨a1, k1, e1, _⟩ := h1.at_
  obtain ⟨a2, k2, e2, _⟩ := h2.at_
  subst e1
  subst e2
  have c0 : w.cell? ⟨sb, 0, none⟩ = some (.slice a1 n1 k1) := by rw [cell_of hb]; rfl
  have c1 : w.cell? ⟨sb, 1, none⟩ = some (.slice a2 n2 k2) := by rw [cell_of hb]; rfl
  have H1 := hide h1
  have H2 := hide h2
  have HB := hide hb
  clear h1 h2 hb
  obtain ⟨s, hs⟩ : ∃ s, s = n1 + n2 := ⟨_, rfl⟩
  have hsi : (n1 : Int) + (n2 : Int) = (s : Int) := by omega
  have ws : IntKind.i64.wrap (s : Int) = s := wraps_i64 _ (by omega) (by omega)
  have hn1 : ¬ (n1 : Int) < 0 := by omega
  have hs0 : ¬ (s : Int) < 0 := by omega
  have HS := hide hs
  have hsn : s ≤ 100000 := by omega
  have wn1 : IntKind.i64.wrap (n1 : Int) = n1 := wraps_i64 _ (by omega) (by omega)
  clear hs
  go_enter Tryd.func111, Tryd.ntmps111
  go_wp2
  refine wp_loop_rounds 3 ?_
  rw [rounds_succ]
  go_wp2_with fail
  rw [rounds_succ]
  go_wp2_with fail
  rw [rounds_succ]
  go_wp2_with fail
  refine (growB_any s w (by omega)).mono ?_
  rintro e w1 ⟨v3, rfl, hown, hf1⟩
  have hl := lt_of HB.out
  have d0 := (hf1.cell (p := ⟨sb, 0, none⟩) hl (no_no _)).trans c0
  have d1 := (hf1.cell (p := ⟨sb, 1, none⟩) hl (no_no _)).trans c1
  have HO := hide hown
  have HF := hide hf1
  have HI1 := hide (H1.out.fr hf1 (fun _ _ => no_no _))
  have HI2 := hide (H2.out.fr hf1 (fun _ _ => no_no _))
  clear hown hf1
  go_wp2
  refine wp_loop_rounds 3 ?_
  rw [rounds_succ]
  go_wp2_with (at_builtin; refine appB rfl _ rfl (.tmp 31) (.tmp 32) rfl w.heap.size 0 n1 v3 (.slice a1 n1 k1) [] xs1 rfl rfl HO.out HI1.out ?hnm HF.out.size ?hK)
  case hnm => omega
  case hK =>
    intro v4 w2 hown2 hf2
    have hf2 : Fr No w w2 := HF.out.trans2 (blk_own hf2 HO.out)
    have d1 := (hf2.cell (p := ⟨sb, 1, none⟩) hl (no_no _)).trans c1
    have HO2 := hide hown2
    have HF2 := hide hf2
    have HI2 := hide (H2.out.fr hf2 (fun _ _ => no_no _))
    clear hown2 hf2 HO HF HI1 d0
    go_wp2_with fail
    rw [rounds_succ]
    go_wp2_with (at_builtin; refine appB rfl _ rfl (.tmp 31) (.tmp 32) rfl w.heap.size n1 n2 v4 (.slice a2 n2 k2) xs1 xs2 rfl rfl HO2.out HI2.out ?hnm HF2.out.size ?hK)
    case hnm => omega
    case hK =>
      intro v5 w3 hown3 hf3
      have hf3 : Fr No w w3 := HF2.out.trans2 (blk_own hf3 HO2.out)
      have HO3 := hide hown3
      have HF3 := hide hf3
      clear hown3 hf3 HO2 HF2 HI2 d1
      go_wp2_with fail
      rw [rounds_succ]
      go_wp2
      go_ret
      exact ⟨_, rfl, HO3.out, HF3.out⟩

/-- One more appended. -/
theorem appI {P : Program} (hP : P = Tryd.prog) (w : World) {ops : Array Oper} {rest : List Oper} {o : Oper} {a : Act} {Q : Exit → Act → World → Prop} (hgd : o.guard = none) (s x : Operand) (ho : o.op = .call { callee := .builtin .append, args := #[s, x], argTypes := #[30, 30] })
    (B n m : Nat) (v vx : Value) (xs news : List Value) (hs : a.eval s = v) (hx : a.eval x = vx) (hown : w.ownsRow B 3 1 v n xs) (hin : SlIn w 1 vx m news) (hnm : n + m ≤ 100000) (hB : B ≤ w.heap.size)
    (h : ∀ v' w', w'.ownsRow B 3 1 v' (n + m) (xs ++ news) → Fr (BlkB v) w w' → wpList P ops Q rest (a.put o.dst v') w') : wpList P ops Q (o :: rest) a w := by
  subst hP
  obtain ⟨i0, hi, hz0, hz1, hz2⟩ := info_parts cinfoI
  obtain ⟨ao, cap, hvx, hr⟩ := hin.at_
  rcases Nat.eq_zero_or_pos m with h0 | h0
  · subst h0
    obtain ⟨av, cv, hv, hle⟩ := orow_form hown
    have hz : news = [] := List.eq_nil_of_length_eq_zero (by have := hin.len; omega)
    refine Lib.wpList_append_run w hgd s x 30 30 ho v vx hs hx v w (by rw [hv, hvx]; exact run_append_zero w 30 o.type 3 i0 Tryd.underlying30 hi av ao n cv cap hle) (h v w ?_ (Fr.refl _ _))
    rw [hz, List.append_nil]
    exact hown
  · rcases hr with e | ⟨ad, e1, e2, e3⟩
    · omega
    · subst e1
      refine wpList_append_lies w hgd s x 30 ho B 3 i0 _ 1 8 Tryd.underlying30 hi hz0 hz1 hz2 rfl (by decide) v n xs hs hown ad m cap news (by rw [hx, hvx]) hin.len e3 hin.one h0 (by unfold maxLen; omega) (by omega) hB _ rfl ?_
      intro g c w' r1 r2 r3 r4
      exact h _ w' r1 ((Fr.refl (BlkB v) w).grown r2 (fun k hk _ => hk))
set_option maxRecDepth 100000 in
set_option maxHeartbeats 3200000 in
theorem concatI_any (n1 n2 sb cap : Nat) (v1 v2 : Value) (xs1 xs2 : List Value) (w : World) (h1 : SlIn w 1 v1 n1 xs1) (h2 : SlIn w 1 v2 n2 xs2) (hb : w.heap[sb]? = some (.cells #[v1, v2] 30 (0, 0))) (hn : n1 + n2 ≤ 100000) :
    Calls Tryd.prog 134 #[.slice (some ⟨sb, 0, none⟩) 2 cap] w fun e w' => ∃ v, e = .returned v ∧ w'.ownsRow w.heap.size 3 1 v (n1 + n2) (xs1 ++ xs2) ∧ Fr No w w' := by
  obtain ⟨a1, k1, e1, _⟩ := h1.at_
  obtain ⟨a2, k2, e2, _⟩ := h2.at_
  subst e1
  subst e2
  have c0 : w.cell? ⟨sb, 0, none⟩ = some (.slice a1 n1 k1) := by rw [cell_of hb]; rfl
  have c1 : w.cell? ⟨sb, 1, none⟩ = some (.slice a2 n2 k2) := by rw [cell_of hb]; rfl
  have H1 := hide h1
  have H2 := hide h2
  have HB := hide hb
  clear h1 h2 hb
  obtain ⟨s, hs⟩ : ∃ s, s = n1 + n2 := ⟨_, rfl⟩
  have hsi : (n1 : Int) + (n2 : Int) = (s : Int) := by omega
  have ws : IntKind.i64.wrap (s : Int) = s := wraps_i64 _ (by omega) (by omega)
  have hn1 : ¬ (n1 : Int) < 0 := by omega
  have hs0 : ¬ (s : Int) < 0 := by omega
  have HS := hide hs
  have hsn : s ≤ 100000 := by omega
  have wn1 : IntKind.i64.wrap (n1 : Int) = n1 := wraps_i64 _ (by omega) (by omega)
  clear hs
  go_enter Tryd.func134, Tryd.ntmps134
  go_wp2
  refine wp_loop_rounds 3 ?_
  rw [rounds_succ]
  go_wp2_with fail
  rw [rounds_succ]
  go_wp2_with fail
  rw [rounds_succ]
  go_wp2_with fail
  refine (growI_any s w (by omega)).mono ?_
  rintro e w1 ⟨v3, rfl, hown, hf1⟩
  have hl := lt_of HB.out
  have d0 := (hf1.cell (p := ⟨sb, 0, none⟩) hl (no_no _)).trans c0
  have d1 := (hf1.cell (p := ⟨sb, 1, none⟩) hl (no_no _)).trans c1
  have HO := hide hown
  have HF := hide hf1
  have HI1 := hide (H1.out.fr hf1 (fun _ _ => no_no _))
  have HI2 := hide (H2.out.fr hf1 (fun _ _ => no_no _))
  clear hown hf1
  go_wp2
  refine wp_loop_rounds 3 ?_
  rw [rounds_succ]
  go_wp2_with (at_builtin; refine appI rfl _ rfl (.tmp 31) (.tmp 32) rfl w.heap.size 0 n1 v3 (.slice a1 n1 k1) [] xs1 rfl rfl HO.out HI1.out ?hnm HF.out.size ?hK)
  case hnm => omega
  case hK =>
    intro v4 w2 hown2 hf2
    have hf2 : Fr No w w2 := HF.out.trans2 (blk_own hf2 HO.out)
    have d1 := (hf2.cell (p := ⟨sb, 1, none⟩) hl (no_no _)).trans c1
    have HO2 := hide hown2
    have HF2 := hide hf2
    have HI2 := hide (H2.out.fr hf2 (fun _ _ => no_no _))
    clear hown2 hf2 HO HF HI1 d0
    go_wp2_with fail
    rw [rounds_succ]
    go_wp2_with (at_builtin; refine appI rfl _ rfl (.tmp 31) (.tmp 32) rfl w.heap.size n1 n2 v4 (.slice a2 n2 k2) xs1 xs2 rfl rfl HO2.out HI2.out ?hnm HF2.out.size ?hK)
    case hnm => omega
    case hK =>
      intro v5 w3 hown3 hf3
      have hf3 : Fr No w w3 := HF2.out.trans2 (blk_own hf3 HO2.out)
      have HO3 := hide hown3
      have HF3 := hide hf3
      clear hown3 hf3 HO2 HF2 HI2 d1
      go_wp2_with fail
      rw [rounds_succ]
      go_wp2
      go_ret
      exact ⟨_, rfl, HO3.out, HF3.out⟩

/-- One more appended. -/
theorem appU {P : Program} (hP : P = Tryd.prog) (w : World) {ops : Array Oper} {rest : List Oper} {o : Oper} {a : Act} {Q : Exit → Act → World → Prop} (hgd : o.guard = none) (s x : Operand) (ho : o.op = .call { callee := .builtin .append, args := #[s, x], argTypes := #[51, 51] })
    (B n m : Nat) (v vx : Value) (xs news : List Value) (hs : a.eval s = v) (hx : a.eval x = vx) (hown : w.ownsRow B 5 1 v n xs) (hin : SlIn w 1 vx m news) (hnm : n + m ≤ 100000) (hB : B ≤ w.heap.size)
    (h : ∀ v' w', w'.ownsRow B 5 1 v' (n + m) (xs ++ news) → Fr (BlkB v) w w' → wpList P ops Q rest (a.put o.dst v') w') : wpList P ops Q (o :: rest) a w := by
  subst hP
  obtain ⟨i0, hi, hz0, hz1, hz2⟩ := info_parts cinfoU
  obtain ⟨ao, cap, hvx, hr⟩ := hin.at_
  rcases Nat.eq_zero_or_pos m with h0 | h0
  · subst h0
    obtain ⟨av, cv, hv, hle⟩ := orow_form hown
    have hz : news = [] := List.eq_nil_of_length_eq_zero (by have := hin.len; omega)
    refine Lib.wpList_append_run w hgd s x 51 51 ho v vx hs hx v w (by rw [hv, hvx]; exact run_append_zero w 51 o.type 5 i0 Tryd.underlying51 hi av ao n cv cap hle) (h v w ?_ (Fr.refl _ _))
    rw [hz, List.append_nil]
    exact hown
  · rcases hr with e | ⟨ad, e1, e2, e3⟩
    · omega
    · subst e1
      refine wpList_append_lies w hgd s x 51 ho B 5 i0 _ 1 1 Tryd.underlying51 hi hz0 hz1 hz2 rfl (by decide) v n xs hs hown ad m cap news (by rw [hx, hvx]) hin.len e3 hin.one h0 (by unfold maxLen; omega) (by omega) hB _ rfl ?_
      intro g c w' r1 r2 r3 r4
      exact h _ w' r1 ((Fr.refl (BlkB v) w).grown r2 (fun k hk _ => hk))
set_option maxRecDepth 100000 in
set_option maxHeartbeats 3200000 in
theorem concatU_any (n1 n2 sb cap : Nat) (v1 v2 : Value) (xs1 xs2 : List Value) (w : World) (h1 : SlIn w 1 v1 n1 xs1) (h2 : SlIn w 1 v2 n2 xs2) (hb : w.heap[sb]? = some (.cells #[v1, v2] 51 (0, 0))) (hn : n1 + n2 ≤ 100000) :
    Calls Tryd.prog 115 #[.slice (some ⟨sb, 0, none⟩) 2 cap] w fun e w' => ∃ v, e = .returned v ∧ w'.ownsRow w.heap.size 5 1 v (n1 + n2) (xs1 ++ xs2) ∧ Fr No w w' := by
  obtain ⟨a1, k1, e1, _⟩ := h1.at_
  obtain ⟨a2, k2, e2, _⟩ := h2.at_
  subst e1
  subst e2
  have c0 : w.cell? ⟨sb, 0, none⟩ = some (.slice a1 n1 k1) := by rw [cell_of hb]; rfl
  have c1 : w.cell? ⟨sb, 1, none⟩ = some (.slice a2 n2 k2) := by rw [cell_of hb]; rfl
  have H1 := hide h1
  have H2 := hide h2
  have HB := hide hb
  clear h1 h2 hb
  obtain ⟨s, hs⟩ : ∃ s, s = n1 + n2 := ⟨_, rfl⟩
  have hsi : (n1 : Int) + (n2 : Int) = (s : Int) := by omega
  have ws : IntKind.i64.wrap (s : Int) = s := wraps_i64 _ (by omega) (by omega)
  have hn1 : ¬ (n1 : Int) < 0 := by omega
  have hs0 : ¬ (s : Int) < 0 := by omega
  have HS := hide hs
  have hsn : s ≤ 100000 := by omega
  have wn1 : IntKind.i64.wrap (n1 : Int) = n1 := wraps_i64 _ (by omega) (by omega)
  clear hs
  go_enter Tryd.func115, Tryd.ntmps115
  go_wp2
  refine wp_loop_rounds 3 ?_
  rw [rounds_succ]
  go_wp2_with fail
  rw [rounds_succ]
  go_wp2_with fail
  rw [rounds_succ]
  go_wp2_with fail
  refine (growU_any s w (by omega)).mono ?_
  rintro e w1 ⟨v3, rfl, hown, hf1⟩
  have hl := lt_of HB.out
  have d0 := (hf1.cell (p := ⟨sb, 0, none⟩) hl (no_no _)).trans c0
  have d1 := (hf1.cell (p := ⟨sb, 1, none⟩) hl (no_no _)).trans c1
  have HO := hide hown
  have HF := hide hf1
  have HI1 := hide (H1.out.fr hf1 (fun _ _ => no_no _))
  have HI2 := hide (H2.out.fr hf1 (fun _ _ => no_no _))
  clear hown hf1
  go_wp2
  refine wp_loop_rounds 3 ?_
  rw [rounds_succ]
  go_wp2_with (at_builtin; refine appU rfl _ rfl (.tmp 31) (.tmp 32) rfl w.heap.size 0 n1 v3 (.slice a1 n1 k1) [] xs1 rfl rfl HO.out HI1.out ?hnm HF.out.size ?hK)
  case hnm => omega
  case hK =>
    intro v4 w2 hown2 hf2
    have hf2 : Fr No w w2 := HF.out.trans2 (blk_own hf2 HO.out)
    have d1 := (hf2.cell (p := ⟨sb, 1, none⟩) hl (no_no _)).trans c1
    have HO2 := hide hown2
    have HF2 := hide hf2
    have HI2 := hide (H2.out.fr hf2 (fun _ _ => no_no _))
    clear hown2 hf2 HO HF HI1 d0
    go_wp2_with fail
    rw [rounds_succ]
    go_wp2_with (at_builtin; refine appU rfl _ rfl (.tmp 31) (.tmp 32) rfl w.heap.size n1 n2 v4 (.slice a2 n2 k2) xs1 xs2 rfl rfl HO2.out HI2.out ?hnm HF2.out.size ?hK)
    case hnm => omega
    case hK =>
      intro v5 w3 hown3 hf3
      have hf3 : Fr No w w3 := HF2.out.trans2 (blk_own hf3 HO2.out)
      have HO3 := hide hown3
      have HF3 := hide hf3
      clear hown3 hf3 HO2 HF2 HI2 d1
      go_wp2_with fail
      rw [rounds_succ]
      go_wp2
      go_ret
      exact ⟨_, rfl, HO3.out, HF3.out⟩
end Go.Proofs.YtjjjlilflbddoaaDoor
/-
  Bundles with their symbols; sorted.
-/
namespace Go.Proofs.YtjjjlilflbddoaaDoor
open Go.RowKit Pm

def ec (e : El) : List Value := [.int .i64 (e.1 : Nat), sv e]
def ivl (l : List Nat) : List Value := l.map fun n => .int .i64 (n : Nat)
def pr (e : El) : Bd := (e.1, e.2.2)
/-- A row of bundles, each with the row of its symbols; all from B on. -/
structure Bn (w : World) (B : Nat) (v : Value) (es : List El) : Prop where
  row : w.ownsRow B 188 2 v es.length (es.flatMap ec)
  sym : ∀ e ∈ es, w.ownsRow B 3 1 (sv e) e.2.2.length (ivl e.2.2)
theorem ec_len (es : List El) : (es.flatMap ec).length = es.length * 2 := by
  induction es with
  | nil => rfl
  | cons a l ih => rw [List.flatMap_cons, List.length_append, ih, List.length_cons]; show 2 + _ = _; omega
theorem ec_get : ∀ (es : List El) (i : Nat), i < es.length → (es.flatMap ec)[i * 2]? = some (.int .i64 ((es.getD i ed).1 : Nat)) ∧ (es.flatMap ec)[i * 2 + 1]? = some (sv (es.getD i ed))
  | [], i, h => by simp at h
  | a :: l, 0, _ => by rw [List.flatMap_cons]; exact ⟨rfl, rfl⟩
  | a :: l, i + 1, h => by
    have ih := ec_get l i (by simpa using h)
    rw [List.flatMap_cons, List.getElem?_append_right (by show 2 ≤ _; omega), List.getElem?_append_right (by show 2 ≤ _; omega), show (i + 1) * 2 - (ec a).length = i * 2 by show _ - 2 = _; omega, show (i + 1) * 2 + 1 - (ec a).length = i * 2 + 1 by show _ - 2 = _; omega]
    exact ih
theorem ec_one (es : List El) : ∀ u ∈ es.flatMap ec, u.oneCell' = true := fun u hu => by
  obtain ⟨e, _, he⟩ := List.mem_flatMap.1 hu
  simp [ec, sv] at he
  rcases he with rfl | rfl <;> rfl
theorem ivl_one (l : List Nat) : ∀ u ∈ ivl l, u.oneCell' = true := fun u hu => by
  obtain ⟨n, _, rfl⟩ := List.mem_map.1 hu
  rfl
theorem Bn.fr {S : Nat → Prop} {w w' : World} {B : Nat} {v : Value} {es : List El} (h : Bn w B v es) (f : Fr S w w') (hs : ∀ k, B ≤ k → k < w.heap.size → ¬ S k) : Bn w' B v es := by
  refine ⟨ownsRow_fr h.row f (fun g hg => ?_), fun e he => ownsRow_fr (h.sym e he) f (fun g hg => ?_)⟩
  · have := wrow_lt h.row hg; exact hs g this.1 this.2
  · have := wrow_lt (h.sym e he) hg; exact hs g this.1 this.2
theorem Bn.no {w w' : World} {B : Nat} {v : Value} {es : List El} (h : Bn w B v es) (f : Fr No w w') : Bn w' B v es := h.fr f (fun _ _ _ => no_no _)
/-- A row of bundles in its block. -/
theorem rw_of {w : World} {B n g cap : Nat} {es : List El} (h : w.ownsRow B 188 2 (.slice (some ⟨g, 0, none⟩) n cap) n (es.flatMap ec)) (hn : n = es.length) : ∃ cur, Rw w g es cur ∧ cur.size = cap * 2 ∧ B ≤ g ∧ n ≤ cap ∧ cap ≤ maxLen := by
  subst hn
  rcases h.2 with ⟨e, _⟩ | ⟨g', cap', cur, e, h1, h2, h3, h4, h5, h6⟩
  · cases e
  · injection e with e1 e2 e3
    injection e1 with e1
    injection e1 with e1
    subst e1
    subst e3
    refine ⟨cur, ⟨h2, fun i hi => ?_, fun i hi => ?_⟩, h5, h1, h3, h4⟩
    · have := (ec_get es i hi).1
      rw [← h6, List.getElem?_take_of_lt (by omega), Array.getElem?_toList] at this
      exact this
    · have := (ec_get es i hi).2
      rw [← h6, List.getElem?_take_of_lt (by omega), Array.getElem?_toList] at this
      exact this
theorem of_rw {w : World} {B n g cap : Nat} {es : List El} {cur : Array Value} (h : Rw w g es cur) (hn : n = es.length) (h1 : cur.size = cap * 2) (h2 : B ≤ g) (h3 : n ≤ cap) (h4 : cap ≤ maxLen) : w.ownsRow B 188 2 (.slice (some ⟨g, 0, none⟩) n cap) n (es.flatMap ec) := by
  subst hn
  refine ⟨ec_len es, .inr ⟨g, cap, cur, rfl, h2, h.blk, h3, h4, h1, ?_⟩⟩
  apply List.ext_getElem?
  intro j
  by_cases hj : j < es.length * 2
  · rw [List.getElem?_take_of_lt hj, Array.getElem?_toList]
    obtain ⟨i, r, hr, e⟩ : ∃ i r, r < 2 ∧ j = i * 2 + r := ⟨j / 2, j % 2, by omega, by omega⟩
    have hg := ec_get es i (by omega)
    rcases (by omega : r = 0 ∨ r = 1) with rfl | rfl
    · rw [e, Nat.add_zero, h.at0 i (by omega), hg.1]
    · rw [e, h.at1 i (by omega), hg.2]
  · rw [List.getElem?_eq_none (by rw [List.length_take]; omega), List.getElem?_eq_none (by rw [ec_len]; omega)]

set_option maxRecDepth 100000 in
set_option maxHeartbeats 1600000 in
theorem sort_any (B : Nat) (v : Value) (es : List El) (w : World) (h : Bn w B v es) (hn : es.length ≤ 10000) :
    Calls Tryd.prog 113 #[v, cmpV] w fun e w' => e = .returned (.tuple #[]) ∧ (∃ ys, Bn w' B v ys ∧ Sd ys ∧ St es ys ∧ ys.length = es.length) ∧ Fr (BlkB v) w w' := by
  rcases h.row.2 with ⟨e1, e2⟩ | ⟨g, cap, cur0, e1, _⟩
  · have hes : es = [] := List.eq_nil_of_length_eq_zero e2
    subst hes
    subst e1
    have HH := hide h
    clear h
    unfold cmpV
    go_enter Tryd.func113, Tryd.ntmps113
    go_wp2_with fail
    have hins : ∀ W : World, Calls Tryd.prog 150 #[.slice none 0 0, .int .i64 0, .int .i64 0, .func (.func 114) #[] #[]] W fun e w' => e = .returned (.tuple #[]) ∧ w' = W := fun W => by
      go_enter Tryd.func150, Tryd.ntmps150
      go_wp2
      refine wp_loop_rounds 1 ?_
      rw [rounds_succ]
      go_wp2
      go_end0
      exact ⟨rfl, rfl⟩
    have HINS := hide hins
    have hst : ∀ W : World, Calls Tryd.prog 135 #[.slice none 0 0, .int .i64 0, .func (.func 114) #[] #[]] W fun e w' => e = .returned (.tuple #[]) ∧ w' = W := fun W => by
      clear hins
      go_enter Tryd.func135, Tryd.ntmps135
      go_wp2
      refine wp_loop_rounds 1 ?_
      rw [rounds_succ]
      go_wp2_with fail
      refine (HINS.out _).mono ?_
      rintro e w1 ⟨rfl, rfl⟩
      go_wp2
      refine wp_loop_rounds 1 ?_
      rw [rounds_succ]
      go_wp2
      go_end0
      exact ⟨rfl, rfl⟩
    clear hins
    refine (hst _).mono ?_
    rintro e w1 ⟨rfl, rfl⟩
    clear hst
    go_wp2
    go_end0
    exact ⟨rfl, ⟨[], HH.out, List.Pairwise.nil, St.refl _, rfl⟩, Fr.refl _ _⟩
  · subst e1
    obtain ⟨cur, hr, hcs, hBg, hnc, hcm⟩ := rw_of h.row rfl
    have HC := hide (stable_any g es.length cap (cap * 2) es w ⟨cur, hr, hcs⟩ rfl hn)
    have HH := hide h
    have HB := hide (And.intro hBg (And.intro hnc hcm))
    have HRW := hide hr
    clear h hr hcs hBg hnc hcm
    obtain ⟨n, hne⟩ : ∃ n, n = es.length := ⟨_, rfl⟩
    rw [← hne] at HC HH HB ⊢
    have HNE := hide hne
    clear hne
    unfold cmpV
    go_enter Tryd.func113, Tryd.ntmps113
    go_wp2_with fail
    refine HC.out.mono ?_
    rintro e w1 ⟨rfl, ⟨ys, ⟨cur', r1, r2⟩, r3, r4, r5⟩, f1⟩
    have HR : Hid ((∃ ys, Bn w1 B (.slice (some ⟨g, 0, none⟩) n cap) ys ∧ Sd ys ∧ St es ys ∧ ys.length = n) ∧ Fr (BlkB (.slice (some ⟨g, 0, none⟩) n cap)) w w1) := by
      refine ⟨⟨ys, ⟨?_, fun y hy => ?_⟩, r5, r4, r3⟩, f1.mono (fun k _ e => by have e' : k = g := e; subst e'; rfl)⟩
      · have := of_rw r1 r3.symm r2 HB.out.1 HB.out.2.1 HB.out.2.2
        rw [r3]
        exact this
      · have hs := HH.out.sym y (r4.mem hy)
        refine ownsRow_fr hs f1 (fun g' hg' e => ?_)
        have e' : g' = g := e
        subst e'
        rcases hs.2 with ⟨q1, _⟩ | ⟨g2, c2, cur2, q1, _, q3, _⟩
        · rw [q1] at hg'; cases hg'
        · rw [q1] at hg'
          have : g2 = g' := by simpa [Value.ownBlock] using hg'
          subst this
          have q4 := HRW.out.blk
          rw [q3] at q4
          injection q4 with q4
          injection q4 with _ q5
          exact absurd q5 (by decide)
    clear r1 r2 r3 r4 r5 f1
    go_wp2
    go_end0
    exact ⟨rfl, HR.out.1, HR.out.2⟩
end Go.Proofs.YtjjjlilflbddoaaDoor
/-
  The symbols that come at all, as bundles.
-/
namespace Go.Proofs.YtjjjlilflbddoaaDoor
open Go.RowKit Pm

/-- Numbers in a block. -/
def IntsAt (w : World) (b : Nat) (c : List Nat) : Prop := b < w.heap.size ∧ ∀ i, i < c.length → w.cell? ⟨b, i, none⟩ = some (.int .i64 (c.getD i 0 : Nat))
theorem IntsAt.fr {S : Nat → Prop} {w w' : World} {b : Nat} {c : List Nat} (h : IntsAt w b c) (f : Fr S w w') (hs : ¬ S b) : IntsAt w' b c := ⟨Nat.lt_of_lt_of_le h.1 f.size, fun i hi => (f.cell (p := ⟨b, i, none⟩) h.1 hs).trans (h.2 i hi)⟩
theorem Bn.nil (w : World) (B : Nat) : Bn w B (.slice none 0 0) [] := ⟨⟨rfl, .inl ⟨rfl, rfl⟩⟩, fun e h => by simp at h⟩
theorem Bn.form {w : World} {B : Nat} {v : Value} {es : List El} (h : Bn w B v es) : ∃ ao cap, v = .slice ao es.length cap := by
  obtain ⟨ao, cap, e, _⟩ := orow_form h.row
  exact ⟨ao, cap, e⟩
/-- One bundle more. -/
theorem Bn.add {w w0 w' : World} {B : Nat} {v v' : Value} {es : List El} {e : El} (h : Bn w B v es) (f0 : Fr No w w0) (hr : w'.ownsRow B 188 2 v' (es.length + 1) (es.flatMap ec ++ ec e)) (f : Fr (BlkB v) w0 w') (hs : w0.ownsRow B 3 1 (sv e) e.2.2.length (ivl e.2.2)) : Bn w' B v' (es ++ [e]) := by
  have key : ∀ x : El, w0.ownsRow B 3 1 (sv x) x.2.2.length (ivl x.2.2) → w'.ownsRow B 3 1 (sv x) x.2.2.length (ivl x.2.2) := fun x hx => by
    refine ownsRow_fr hx f (fun g hg e' => ?_)
    have e' : v.ownBlock = some g := e'
    rcases hx.2 with ⟨q1, _⟩ | ⟨g2, c2, cur2, q1, _, q3, _⟩
    · rw [q1] at hg; cases hg
    · rw [q1] at hg
      have : g2 = g := by simpa [Value.ownBlock] using hg
      subst this
      rcases (ownsRow_fr h.row f0 (fun _ _ => no_no _)).2 with ⟨p1, _⟩ | ⟨g3, c3, cur3, p1, _, p3, _⟩
      · rw [p1] at e'; cases e'
      · rw [p1] at e'
        have : g3 = g2 := by simpa [Value.ownBlock] using e'
        subst this
        rw [q3] at p3
        injection p3 with p3
        injection p3 with _ p4
        exact absurd p4 (by decide)
  refine ⟨by rw [List.length_append, List.flatMap_append]; simpa using hr, fun x hx => ?_⟩
  rcases List.mem_append.1 hx with hx | hx
  · exact key x (ownsRow_fr (h.sym x hx) f0 (fun _ _ => no_no _))
  · rw [List.mem_singleton.1 hx]; exact key e hs
/-- The symbols up to k that come at all. -/
def candN (c : List Nat) (k : Nat) : List Nat := (List.range k).filter (fun i => decide (0 < cf c i))
theorem candN_succ (c : List Nat) (k : Nat) : candN c (k + 1) = if 0 < cf c k then candN c k ++ [k] else candN c k := by
  unfold candN
  rw [List.range_succ, List.filter_append]
  by_cases h : 0 < cf c k
  · rw [if_pos h, List.filter_cons_of_pos (by simpa using h)]; rfl
  · rw [if_neg h, List.filter_cons_of_neg (by simpa using h)]; simp
theorem candN_len (c : List Nat) (k : Nat) : (candN c k).length ≤ k := by
  have := List.length_filter_le (fun i => decide (0 < cf c i)) (List.range k)
  rw [List.length_range] at this
  exact this
theorem sd_pr {es : List El} (h : Sd es) : Sd (es.map pr) := List.pairwise_map.2 h
theorem st_pr {x y : List El} (h : St x y) : St (x.map pr) (y.map pr) := fun v => by
  have e : ∀ l : List El, (l.map pr).filter (fun b => b.1 == v) = (l.filter (fun b => b.1 == v)).map pr := fun l => by rw [List.filter_map]; rfl
  rw [e, e, h v]
/-- What the singles come to. -/
def SingsP (c : List Nat) (w : World) (e : Ending) (w' : World) : Prop := ∃ v es X, e = .returned v ∧ Bn w' w.heap.size v es ∧ es.map pr = sing (cf c) X ∧ X.Perm (cand c) ∧ Sd (sing (cf c) X) ∧ Fr No w w'

set_option maxRecDepth 100000 in
set_option maxHeartbeats 3200000 in
theorem singles_any (b cap : Nat) (c : List Nat) (w : World) (h : IntsAt w b c) (hn : c.length ≤ 400) (hc : ∀ i, cf c i ≤ 1000000) :
    Calls Tryd.prog 110 #[.slice (some ⟨b, 0, none⟩) c.length cap] w (SingsP c w) := by
  have H := hide h
  have HC := hide hc
  clear h hc
  obtain ⟨n, hne⟩ : ∃ n, n = c.length := ⟨_, rfl⟩
  rw [← hne] at hn ⊢
  have HNE := hide hne
  clear hne
  go_enter Tryd.func110, Tryd.ntmps110
  go_wp2
  go_loopw [3, 8] (fun sv0 iv wr => ∃ (k : Nat) (es : List El), k ≤ n ∧ iv = .int .i64 k ∧ Hid (Bn wr w.heap.size sv0 es) ∧ Hid (es.map pr = sing (cf c) (candN c k)) ∧ Hid (Fr No w wr)) (fun _ iv _ => n - (intOf iv).toNat)
  case atStart => exact ⟨0, [], Nat.zero_le _, rfl, Bn.nil _ _, rfl, Fr.refl _ _⟩
  case round =>
    obtain ⟨k, es, hk, rfl, HB, HE, HF⟩ := hrel
    obtain ⟨ao, cp, hv⟩ := HB.out.form
    subst hv
    have hesl : es.length ≤ k := by have := congrArg List.length HE.out; rw [List.length_map, sing_len] at this; have := candN_len c k; omega
    have hsz := HF.out.size
    by_cases hlt : k < n
    · have hcell := (H.out.fr HF.out (no_no _)).2 k (by have := HNE.out; omega)
      have hkn : (k : Int) < (n : Int) := by omega
      have hcm : c.getD k 0 ≤ 1000000 := HC.out k
      have HNX := hide (candN_succ c k)
      have HCF : Hid (cf c k = c.getD k 0) := rfl
      obtain ⟨x, hx⟩ : ∃ x, x = c.getD k 0 := ⟨_, rfl⟩
      rw [← hx] at hcell HCF hcm
      clear hx
      by_cases hx0 : 0 < x
      · have hx0i : (0 : Int) < (x : Int) := by omega
        obtain ⟨wa, hwa⟩ : ∃ wa, wa = (wr.alloc (.cells #[.int .i64 k] 3)).alloc (.cells #[.int .i64 (x : Nat), .slice (some ⟨wr.heap.size, 0, none⟩) 1 1] 188) := ⟨_, rfl⟩
        have hfa : Fr No wr wa := by rw [hwa]; exact ((Fr.refl _ _).alloc _).alloc _
        have hb1 : wa.heap[wr.heap.size]? = some (.cells #[.int .i64 k] 3 (0, 0)) := by rw [hwa]; exact alloc_old (alloc_at wr _)
        have hb2 : wa.heap[wr.heap.size + 1]? = some (.cells #[.int .i64 (x : Nat), .slice (some ⟨wr.heap.size, 0, none⟩) 1 1] 188 (0, 0)) := by rw [hwa]; exact alloc2_at wr _ _
        have hsa : wa.heap.size = wr.heap.size + 2 := by rw [hwa, World.size_alloc, World.size_alloc]
        obtain ⟨el, hel⟩ : ∃ el : El, el = (x, ((some ⟨wr.heap.size, 0, none⟩, (1, 1)), [k])) := ⟨_, rfl⟩
        have HSY : Hid (wa.ownsRow w.heap.size 3 1 (sv el) el.2.2.length (ivl el.2.2)) := by
          unfold Hid
          rw [hel]
          exact ⟨rfl, .inr ⟨wr.heap.size, 1, _, rfl, hsz, hb1, Nat.le_refl _, by decide, rfl, rfl⟩⟩
        have HIN : Hid (SlIn wa 2 (.slice (some ⟨wr.heap.size + 1, 0, none⟩) 1 1) 1 (ec el)) := by
          unfold Hid
          rw [hel]
          refine ⟨rfl, fun u hu => by simp [ec, sv] at hu; rcases hu with rfl | rfl <;> rfl, _, _, rfl, .inr ⟨_, rfl, lt_of hb2, fun j u hj => ?_⟩⟩
          match j, hj with
          | 0, hj => simp [ec] at hj; subst hj; exact cell_of hb2 0
          | 1, hj => simp [ec, sv] at hj; subst hj; exact cell_of hb2 1
        have HEL := hide hel
        have HFA := hide hfa
        have HWA := hide hwa
        have HOW := hide (ownsRow_fr HB.out.row hfa (fun _ _ => no_no _))
        have hwas : w.heap.size ≤ wa.heap.size := by omega
        clear hel hfa hwa hb1 hb2 hsa
        go_wp2_with (at_builtin; rw [← HWA.out]; refine appB rfl _ rfl (.tmp 15) (.tmp 20) rfl w.heap.size es.length 1 (.slice ao es.length cp) (.slice (some ⟨wr.heap.size + 1, 0, none⟩) 1 1) (es.flatMap ec) (ec el) rfl rfl HOW.out HIN.out ?hnm hwas ?hK)
        case hnm => omega
        case hK =>
          intro v' w' hr hf
          have HNB : Hid (Bn w' w.heap.size v' (es ++ [el])) := HB.out.add HFA.out hr hf HSY.out
          have HNF : Hid (Fr No w w') := (HF.out.trans HFA.out).trans2 (blk_own hf HOW.out)
          clear hr hf HOW HIN HSY HB
          go_wp2_with fail
          refine ⟨⟨k + 1, es ++ [el], by omega, by go_num, HNB.out, ?_, HNF.out⟩, by simp [intOf]; omega⟩
          unfold Hid
          have h1 : 0 < cf c k := by rw [HCF.out]; exact hx0
          rw [HNX.out, if_pos h1, List.map_append, HE.out, HEL.out]
          unfold sing
          rw [List.map_append, List.map_singleton, List.map_singleton]
          show _ ++ [((x, [k]) : Bd)] = _ ++ [(cf c k, [k])]
          rw [HCF.out]
      · have hx0i : ¬ (0 : Int) < (x : Int) := by omega
        go_wp2_with fail
        refine ⟨⟨k + 1, es, by omega, by go_num, HB.out, ?_, HF.out⟩, by simp [intOf]; omega⟩
        unfold Hid
        rw [HNX.out, if_neg (by rw [HCF.out]; exact hx0)]
        exact HE.out
    · have hke : k = n := by omega
      subst hke
      have HCS := hide (sort_any w.heap.size (.slice ao es.length cp) es wr HB.out (by omega))
      have hnlt : ¬ (k : Int) < (k : Int) := by omega
      go_wp2_with fail
      refine HCS.out.mono ?_
      rintro e w1 ⟨rfl, ⟨ys, r1, r2, r3, r4⟩, f1⟩
      have HR : Hid (SingsP c w (.returned (.slice ao es.length cp)) w1) := by
        have hst := st_pr r3
        rw [HE.out] at hst
        have hcd : candN c k = cand c := by unfold candN cand; rw [HNE.out]
        obtain ⟨p1, p2⟩ := perm_sing (st_perm hst)
        have hsd := sd_pr r2
        rw [p1] at hsd
        refine ⟨_, ys, syms (ys.map pr), rfl, r1, p1, by rw [hcd] at p2; exact p2, hsd, HF.out.trans2 (blk_own f1 HB.out.row)⟩
      clear r1 r2 r3 r4 f1
      go_wp2
      go_ret
      exact HR.out
end Go.Proofs.YtjjjlilflbddoaaDoor
