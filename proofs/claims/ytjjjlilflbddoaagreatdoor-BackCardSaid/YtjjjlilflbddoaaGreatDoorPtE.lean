import Derived.Test.YtjjjlilflbddoaaGreatDoorGPtA
/-
  Bundles taken together two by two.
-/
namespace Go.Proofs.YtjjjlilflbddoaaGreatDoor
open Go.RowKit Pm

theorem pairs_drop (l : List Bd) (k : Nat) (h : k + 2 ≤ l.length) : pairs (l.drop k) = ((l.getD k (0, [])).1 + (l.getD (k + 1) (0, [])).1, (l.getD k (0, [])).2 ++ (l.getD (k + 1) (0, [])).2) :: pairs (l.drop (k + 2)) := by
  have e1 : l.drop k = l.getD k (0, []) :: l.drop (k + 1) := by rw [List.getD, List.getElem?_eq_getElem (by omega), Option.getD_some, List.drop_eq_getElem_cons (by omega)]
  have e2 : l.drop (k + 1) = l.getD (k + 1) (0, []) :: l.drop (k + 2) := by rw [List.getD, List.getElem?_eq_getElem (by omega), Option.getD_some, List.drop_eq_getElem_cons (by omega)]
  rw [e1, e2, pairs]
theorem pairs_short (l : List Bd) (k : Nat) (h : l.length < k + 2) : pairs (l.drop k) = [] := by
  match hl : l.drop k with
  | [] => rfl
  | [_] => simp [pairs]
  | _ :: _ :: r => have := congrArg List.length hl; rw [List.length_drop] at this; simp at this; omega

/-- What the pairs come to. -/
def PairsP (es : List El) (w : World) (e : Ending) (w' : World) : Prop := ∃ pv ps, e = .returned pv ∧ Bn w' w.heap.size pv ps ∧ ps.map pr = pairs (es.map pr) ∧ Fr No w w'
/-- One bundle appended: at the operation. -/
theorem appBo {P : Program} (hP : P = Tryz.prog) (w : World) {o : Oper} {a : Act} {K : Act → World → Prop} {Q : Exit → Act → World → Prop} (s x : Operand) (ho : o.op = .call { callee := .builtin .append, args := #[s, x], argTypes := #[183, 183] })
    (B n : Nat) (v : Value) (ad : Addr) (c : Nat) (xs news : List Value) (hs : a.eval s = v) (hx : a.eval x = .slice (some ad) 1 c) (hown : w.ownsRow B 186 2 v n xs) (hin : SlIn w 2 (.slice (some ad) 1 c) 1 news) (hnm : n + 1 ≤ 100000) (hB : B ≤ w.heap.size)
    (h : ∀ v' w', w'.ownsRow B 186 2 v' (n + 1) (xs ++ news) → Fr (BlkB v) w w' → K (a.put o.dst v') w') : Oper.wp P o a w K Q := by
  subst hP
  obtain ⟨i0, hi, hz0, hz1, hz2⟩ := info_parts cinfoB
  obtain ⟨ao, cap, hvx, hr⟩ := hin.at_
  injection hvx with h1 h2 h3
  subst h1
  subst h3
  rcases hr with e | ⟨ad', e1, e2, e3⟩
  · omega
  · injection e1 with e1
    subst e1
    refine wp_append_lies w s x 183 ho B 186 i0 _ 2 32 Tryz.underlying183 hi hz0 hz1 hz2 rfl (by decide) v n xs hs hown ad 1 c news hx hin.len e3 hin.one (by omega) (by unfold maxLen; omega) (by omega) hB _ rfl ?_
    intro g c' w' r1 r2 r3 r4
    exact h _ w' r1 ((Fr.refl (BlkB v) w).grown r2 (fun k hk _ => hk))
theorem orow_base {w : World} {B B' n z : Nat} {e : TypeId} {v : Value} {xs : List Value} (h : w.ownsRow B' e z v n xs) (hb : B ≤ B') : w.ownsRow B e z v n xs := by
  refine ⟨h.1, ?_⟩
  rcases h.2 with h | ⟨g, cap, cur, e1, e2, r⟩
  · exact .inl h
  · exact .inr ⟨g, cap, cur, e1, by omega, r⟩
theorem ivl_app (a b : List Nat) : ivl a ++ ivl b = ivl (a ++ b) := by simp [ivl]

set_option maxRecDepth 100000 in
set_option maxHeartbeats 12800000 in
theorem pairs_any (B : Nat) (v : Value) (es : List El) (w : World) (h : Bn w B v es) (hn : es.length ≤ 1000) (hc : ∀ e ∈ es, e.1 ≤ 1000000000 ∧ e.2.2.length ≤ 50000) :
    Calls Tryz.prog 103 #[v] w (PairsP es w) := by
  obtain ⟨n, hne⟩ : ∃ n, n = es.length := ⟨_, rfl⟩
  obtain ⟨g, cap, hv, hr⟩ : ∃ ao cap, v = .slice ao n cap ∧ (n = 0 ∨ ∃ g, ao = some ⟨g, 0, none⟩ ∧ n ≤ cap ∧ ∃ cur, Rw w g es cur) := by
    rcases h.row.2 with ⟨e1, e2⟩ | ⟨g, cap, cur0, e1, r⟩
    · exact ⟨none, 0, by rw [e1, hne, e2], .inl (by omega)⟩
    · have hrow := h.row
      rw [e1] at hrow
      obtain ⟨cur, q1, q2, q3, q4, q5⟩ := rw_of hrow rfl
      exact ⟨_, cap, by rw [e1, hne], .inr ⟨g, rfl, by omega, cur, q1⟩⟩
  subst hv
  have H := hide h
  have HR := hide hr
  have HC := hide hc
  have HNE := hide hne
  rw [← hne] at hn
  clear h hr hc hne
  obtain ⟨ao, hao⟩ : ∃ ao, ao = g := ⟨_, rfl⟩
  go_enter Tryz.func103, Tryz.ntmps103
  go_wp2
  go_loopw [0, 3] (fun rv pv wr => ∃ (k : Nat) (ax : Option Addr) (ps : List El), 2 * k ≤ n ∧ rv = .slice ax (n - 2 * k) (cap - 2 * k) ∧ Hid (∀ g', 2 * k < n → g = some ⟨g', 0, none⟩ → ax = some ⟨g', 4 * k, none⟩) ∧ Hid (Bn wr w.heap.size pv ps) ∧ Hid (ps.map pr ++ pairs ((es.map pr).drop (2 * k)) = pairs (es.map pr)) ∧ Hid (Fr No w wr)) (fun rv _ _ => lenOf rv)
  case atStart => exact ⟨0, g, [], Nat.zero_le _, rfl, fun g' _ e => e, Bn.nil _ _, rfl, Fr.refl _ _⟩
  case round =>
    obtain ⟨k, ax, ps, hk, rfl, HAX, HP, HE, HF⟩ := hrel
    obtain ⟨pa, pc, hpv⟩ := HP.out.form
    subst hpv
    obtain ⟨m, hm⟩ : ∃ m, m = n - 2 * k := ⟨_, rfl⟩
    obtain ⟨cm, hcm⟩ : ∃ cm, cm = cap - 2 * k := ⟨_, rfl⟩
    rw [← hm, ← hcm]
    by_cases hlt : 2 ≤ m
    · obtain ⟨g', hg', hnc, cur, hrw⟩ : ∃ g', g = some ⟨g', 0, none⟩ ∧ n ≤ cap ∧ ∃ cur, Rw w g' es cur := by
        rcases HR.out with h0 | h0
        · omega
        · exact h0
      have hax := HAX.out g' (by omega) hg'
      subst hax
      have hrwr := hrw.fr HF.out (no_no _)
      have hi1 : 2 * k < es.length := by have := HNE.out; omega
      have hi2 : 2 * k + 1 < es.length := by have := HNE.out; omega
      have c0 := hrwr.c0 hi1
      have c1 := hrwr.c1 hi1
      have d0 := hrwr.c0 hi2
      have d1 := hrwr.c1 hi2
      rw [show 2 * k * 2 = 4 * k by omega] at c0 c1
      rw [show (2 * k + 1) * 2 = 4 * k + 2 by omega] at d0 d1
      obtain ⟨x, hx⟩ : ∃ x, x = es.getD (2 * k) ed := ⟨_, rfl⟩
      obtain ⟨y, hy⟩ : ∃ y, y = es.getD (2 * k + 1) ed := ⟨_, rfl⟩
      rw [← hx] at c0 c1
      rw [← hy] at d0 d1
      have HX := hide (And.intro hx hy)
      obtain ⟨x1, ⟨x2, x4, x5⟩, x3⟩ := x
      obtain ⟨y1, ⟨y2, y4, y5⟩, y3⟩ := y
      simp only [sv] at c0 c1 d0 d1
      have hex : (x1, ((x2, (x4, x5)), x3)) ∈ es := by rw [HX.out.1, List.getD, List.getElem?_eq_getElem hi1]; exact List.getElem_mem _
      have hey : (y1, ((y2, (y4, y5)), y3)) ∈ es := by rw [HX.out.2, List.getD, List.getElem?_eq_getElem hi2]; exact List.getElem_mem _
      have hcx := HC.out _ hex
      have hcy := HC.out _ hey
      have hcx1 : x1 ≤ 1000000000 ∧ x3.length ≤ 50000 := hcx
      have hcy1 : y1 ≤ 1000000000 ∧ y3.length ≤ 50000 := hcy
      have HSX : Hid (SlIn wr 1 (.slice x2 x4 x5) x3.length (ivl x3)) := (slin_of (H.out.sym _ hex) (ivl_one _)).fr HF.out (fun _ _ => no_no _)
      have HSY : Hid (SlIn wr 1 (.slice y2 y4 y5) y3.length (ivl y3)) := (slin_of (H.out.sym _ hey) (ivl_one _)).fr HF.out (fun _ _ => no_no _)
      obtain ⟨z, hz⟩ : ∃ z, z = x1 + y1 := ⟨_, rfl⟩
      have hzi : (x1 : Int) + (y1 : Int) = (z : Int) := by omega
      have wz : IntKind.i64.wrap (z : Int) = z := wraps_i64 _ (by omega) (by omega)
      have HZ := hide hz
      have hm2 : (2 : Int) ≤ (m : Int) := by omega
      have hm0 : 0 < m := by omega
      have hm1 : 1 < m := by omega
      have hm1i : (1 : Int) < (m : Int) := by omega
      have hgl := hrwr.lt
      obtain ⟨o, ho⟩ : ∃ o, o = Obj.cells #[.int .i64 0, .slice none 0 0] 186 := ⟨_, rfl⟩
      have f1 : Fr No wr (wr.alloc o) := (Fr.refl _ _).alloc _
      have f2 : Fr No wr ((wr.alloc o).alloc o) := ((Fr.refl _ _).alloc _).alloc _
      have c0a := (f1.cell (p := ⟨g', 4 * k, none⟩) hgl (no_no _)).trans c0
      have c1a := (f1.cell (p := ⟨g', 4 * k + 1, none⟩) hgl (no_no _)).trans c1
      have d0a := (f1.cell (p := ⟨g', 4 * k + 2, none⟩) hgl (no_no _)).trans d0
      have d1a := (f1.cell (p := ⟨g', 4 * k + 2 + 1, none⟩) hgl (no_no _)).trans d1
      have c0b := (f2.cell (p := ⟨g', 4 * k, none⟩) hgl (no_no _)).trans c0
      have c1b := (f2.cell (p := ⟨g', 4 * k + 1, none⟩) hgl (no_no _)).trans c1
      have d0b := (f2.cell (p := ⟨g', 4 * k + 2, none⟩) hgl (no_no _)).trans d0
      have d1b := (f2.cell (p := ⟨g', 4 * k + 2 + 1, none⟩) hgl (no_no _)).trans d1
      rw [ho] at c0a c1a d0a d1a c0b c1b d0b d1b
      clear f1 f2 ho
      have HM := hide (And.intro hm hcm)
      clear hx hy hm hcm hrwr hi1 hi2 hex hey hcx hcy hz
      go_upto_region 4 with fail
      go_region
      · obtain ⟨W, hW⟩ : ∃ W, W = ((wr.alloc (.cells #[.int .i64 (x1 : Nat), .slice x2 x4 x5] 186)).alloc (.cells #[.int .i64 (y1 : Nat), .slice y2 y4 y5] 186)).drew := ⟨_, rfl⟩
        rw [← hW]
        have hfW : Fr No wr W := by rw [hW]; exact ((((Fr.refl No wr).alloc _).alloc _).drew)
        obtain ⟨bp, hbp⟩ : ∃ bp, bp = wr.heap.size := ⟨_, rfl⟩
        obtain ⟨bq, hbq⟩ : ∃ bq, bq = wr.heap.size + 1 := ⟨_, rfl⟩
        have hbP : W.heap[bp]? = some (.cells #[.int .i64 (x1 : Nat), .slice x2 x4 x5] 186 (0, 0)) := by rw [hbp]; rw [hW]; exact alloc_old (alloc_at wr _)
        have hbQ : W.heap[bq]? = some (.cells #[.int .i64 (y1 : Nat), .slice y2 y4 y5] 186 (0, 0)) := by rw [hbq]; rw [hW]; exact alloc2_at wr _ _
        rw [← hbq, ← hbp]
        have hsW : wr.heap.size ≤ W.heap.size := hfW.size
        have hbpw : ¬ bp < wr.heap.size := by omega
        have hbqw : ¬ bq < wr.heap.size := by omega
        have HBP := hide hbP
        have HBQ := hide hbQ
        have HFW := hide hfW
        have HS0 : Hid ((W.cell? ⟨bp, 0, none⟩ = some (.int .i64 (x1 : Nat)) ∧ W.cell? ⟨bp, 1, none⟩ = some (.slice x2 x4 x5)) ∧ (W.cell? ⟨bq, 0, none⟩ = some (.int .i64 (y1 : Nat)) ∧ W.cell? ⟨bq, 1, none⟩ = some (.slice y2 y4 y5))) := ⟨⟨by rw [cell_of hbP]; rfl, by rw [cell_of hbP]; rfl⟩, ⟨by rw [cell_of hbQ]; rfl, by rw [cell_of hbQ]; rfl⟩⟩
        clear hW hbp hbq hbP hbQ hfW
        go_upto_region 5 with fail
        refine wp_region_held (S := fun W => ((W.cell? ⟨bp, 0, none⟩ = some (.int .i64 (x1 : Nat)) ∧ W.cell? ⟨bp, 1, none⟩ = some (.slice x2 x4 x5)) ∧ (W.cell? ⟨bq, 0, none⟩ = some (.int .i64 (y1 : Nat)) ∧ W.cell? ⟨bq, 1, none⟩ = some (.slice y2 y4 y5)))) (by kernel_rfl) ?_
        change wpAnyH _ _ _ _ _ _ _ _ (World.drew _)
        have hS0 : (((World.drew W).cell? ⟨bp, 0, none⟩ = some (.int .i64 (x1 : Nat)) ∧ (World.drew W).cell? ⟨bp, 1, none⟩ = some (.slice x2 x4 x5)) ∧ ((World.drew W).cell? ⟨bq, 0, none⟩ = some (.int .i64 (y1 : Nat)) ∧ (World.drew W).cell? ⟨bq, 1, none⟩ = some (.slice y2 y4 y5))) := HS0.out
        refine wpAnyH_take (i := 0) (v := .slice pa ps.length pc) rfl (by kernel_rfl) (by kernel_rfl) (by kernel_rfl) (fun _ _ _ h => h) (Or.inl ⟨by kernel_rfl, by intro w _; go_simp⟩) hS0 ?_
        refine wpAnyH_take (i := 1) (v := .pointer (some ⟨bp, 0, none⟩)) rfl (by kernel_rfl) (by kernel_rfl) (by kernel_rfl) (fun _ _ _ h => h) (Or.inl ⟨by kernel_rfl, by intro w _; go_simp⟩) hS0 ?_
        refine wpAnyH_take (i := 2) (v := .int .i64 (x1 : Nat)) rfl (by kernel_rfl) (by kernel_rfl) (by kernel_rfl) (fun _ _ _ h => h) (Or.inl ⟨by kernel_rfl, by intro w h; have h := h.1.1; go_simp⟩) hS0 ?_
        refine wpAnyH_take (i := 3) (v := .pointer (some ⟨bq, 0, none⟩)) rfl (by kernel_rfl) (by kernel_rfl) (by kernel_rfl) (fun _ _ _ h => h) (Or.inl ⟨by kernel_rfl, by intro w _; go_simp⟩) hS0 ?_
        refine wpAnyH_take (i := 4) (v := .int .i64 (y1 : Nat)) rfl (by kernel_rfl) (by kernel_rfl) (by kernel_rfl) (fun _ _ _ h => h) (Or.inl ⟨by kernel_rfl, by intro w h; have h := h.2.1; go_simp⟩) hS0 ?_
        refine wpAnyH_take (i := 5) (v := .int .i64 (z : Nat)) rfl (by kernel_rfl) (by kernel_rfl) (by kernel_rfl) (fun _ _ _ h => h) (Or.inl ⟨by kernel_rfl, by intro w _; go_simp⟩) hS0 ?_
        refine wpAnyH_take (i := 6) (v := .pointer (some ⟨bp, 1, none⟩)) rfl (by kernel_rfl) (by kernel_rfl) (by kernel_rfl) (fun _ _ _ h => h) (Or.inl ⟨by kernel_rfl, by intro w _; go_simp⟩) hS0 ?_
        refine wpAnyH_take (i := 7) (v := .slice x2 x4 x5) rfl (by kernel_rfl) (by kernel_rfl) (by kernel_rfl) (fun _ _ _ h => h) (Or.inl ⟨by kernel_rfl, by intro w h; have h := h.1.2; go_simp⟩) hS0 ?_
        refine wpAnyH_take (i := 8) (v := .pointer (some ⟨bq, 1, none⟩)) rfl (by kernel_rfl) (by kernel_rfl) (by kernel_rfl) (fun _ _ _ h => h) (Or.inl ⟨by kernel_rfl, by intro w _; go_simp⟩) hS0 ?_
        refine wpAnyH_take (i := 9) (v := .slice y2 y4 y5) rfl (by kernel_rfl) (by kernel_rfl) (by kernel_rfl) (fun _ _ _ h => h) (Or.inl ⟨by kernel_rfl, by intro w h; have h := h.2.2; go_simp⟩) hS0 ?_
        refine wpAnyH_one (i := 10) (by kernel_rfl) rfl (by kernel_rfl) (fun K'' hK' => ?_)
        go_simp
        obtain ⟨V1, hV1⟩ : ∃ V1, V1 = World.drew (W.alloc (.cells #[.slice x2 x4 x5, .slice y2 y4 y5] 62)) := ⟨_, rfl⟩
        rw [← hV1]
        have hfV1 : Fr No W V1 := by rw [hV1]; exact ((Fr.refl No W).alloc _).drew
        have hsb : V1.heap[W.heap.size]? = some (.cells #[.slice x2 x4 x5, .slice y2 y4 y5] 62 (0, 0)) := by rw [hV1]; exact alloc_at W _
        clear hV1
        have hSf : ∀ {V : World}, Fr No W V → ((V.cell? ⟨bp, 0, none⟩ = some (.int .i64 (x1 : Nat)) ∧ V.cell? ⟨bp, 1, none⟩ = some (.slice x2 x4 x5)) ∧ (V.cell? ⟨bq, 0, none⟩ = some (.int .i64 (y1 : Nat)) ∧ V.cell? ⟨bq, 1, none⟩ = some (.slice y2 y4 y5))) := fun {V} f => ⟨⟨(f.cell (p := ⟨bp, 0, none⟩) (lt_of HBP.out) (no_no _)).trans HS0.out.1.1, (f.cell (p := ⟨bp, 1, none⟩) (lt_of HBP.out) (no_no _)).trans HS0.out.1.2⟩, ⟨(f.cell (p := ⟨bq, 0, none⟩) (lt_of HBQ.out) (no_no _)).trans HS0.out.2.1, (f.cell (p := ⟨bq, 1, none⟩) (lt_of HBQ.out) (no_no _)).trans HS0.out.2.2⟩⟩
        refine hK' _ _ (hSf hfV1) ?_
        clear hK' K''
        refine wpAnyH_one (i := 11) (by kernel_rfl) rfl (by kernel_rfl) (fun K'' hK' => ?_)
        go_simp
        refine (concatI_any x3.length y3.length W.heap.size 2 (.slice x2 x4 x5) (.slice y2 y4 y5) (ivl x3) (ivl y3) V1 (HSX.out.fr ((HFW.out).trans hfV1) (fun _ _ => no_no _)) (HSY.out.fr ((HFW.out).trans hfV1) (fun _ _ => no_no _)) hsb (by omega)).mono ?_
        rintro ee V2 ⟨vv, rfl, hvv, hfV2⟩
        obtain ⟨va, vc, hvf, _⟩ := orow_form hvv
        subst hvf
        have hfV2 : Fr No W V2 := hfV1.trans hfV2
        have hS0 := hSf hfV2
        refine hK' _ _ hS0 ?_
        clear hK' K''
        obtain ⟨zl, hzl⟩ : ∃ zl, zl = x3.length + y3.length := ⟨_, rfl⟩
        rw [← hzl] at hvv ⊢
        have HZL := hide hzl
        clear hzl
        refine wpAnyH_take (i := 12) (v := .agg #[.int .i64 (z : Nat), .slice va zl vc]) rfl (by kernel_rfl) (by kernel_rfl) (by kernel_rfl) (fun _ _ _ h => h) (Or.inl ⟨by kernel_rfl, by intro w _; go_simp⟩) hS0 ?_
        refine wpAnyH_one (i := 13) (by kernel_rfl) rfl (by kernel_rfl) (fun K'' hK' => ?_)
        go_simp
        obtain ⟨V3, hV3⟩ : ∃ V3, V3 = V2.alloc (.cells #[.int .i64 (z : Nat), .slice va zl vc] 186) := ⟨_, rfl⟩
        rw [← hV3]
        have hf23 : Fr No V2 V3 := by rw [hV3]; exact (Fr.refl No V2).alloc _
        have hb3 : V3.heap[V2.heap.size]? = some (.cells #[.int .i64 (z : Nat), .slice va zl vc] 186 (0, 0)) := by rw [hV3]; exact alloc_at V2 _
        clear hV3
        refine hK' _ _ (hSf (hfV2.trans hf23)) ?_
        clear hK' K''
        refine wpAnyH_one (i := 14) (by kernel_rfl) rfl (by kernel_rfl) (fun K'' hK' => ?_)
        obtain ⟨el, hel⟩ : ∃ el : El, el = (z, ((va, (zl, vc)), x3 ++ y3)) := ⟨_, rfl⟩
        have hsz2 : w.heap.size ≤ V1.heap.size := Nat.le_trans (HF.out.size) (Nat.le_trans hsW hfV1.size)
        have hsyE : V3.ownsRow w.heap.size 3 1 (sv el) el.2.2.length (ivl el.2.2) := by
          rw [hel]
          have := ownsRow_fr (orow_base hvv hsz2) hf23 (fun _ _ => no_no _)
          rw [ivl_app] at this
          show V3.ownsRow w.heap.size 3 1 (.slice va zl vc) (x3 ++ y3).length (ivl (x3 ++ y3))
          rw [List.length_append, ← HZL.out]
          exact this
        have hfr3 : Fr No wr V3 := HFW.out.trans (hfV2.trans hf23)
        have how : V3.ownsRow w.heap.size 186 2 (.slice pa ps.length pc) ps.length (ps.flatMap ec) := ownsRow_fr HP.out.row hfr3 (fun _ _ => no_no _)
        have hin : SlIn V3 2 (.slice (some ⟨V2.heap.size, 0, none⟩) 1 1) 1 (ec el) := by
          rw [hel]
          refine ⟨rfl, fun u hu => by simp [ec, sv] at hu; rcases hu with rfl | rfl <;> rfl, _, _, rfl, .inr ⟨_, rfl, lt_of hb3, fun j u hj => ?_⟩⟩
          match j, hj with
          | 0, hj => simp [ec] at hj; subst hj; exact cell_of hb3 0
          | 1, hj => simp [ec, sv] at hj; subst hj; exact cell_of hb3 1
        have hpsl : ps.length ≤ 1000 := by
          have h1 := congrArg List.length HE.out
          rw [List.length_append, List.length_map, pairs_len, pairs_len, List.length_map] at h1
          have := HNE.out
          omega
        refine appBo rfl _ (.tmp 17) (.tmp 30) rfl w.heap.size ps.length (.slice pa ps.length pc) ⟨V2.heap.size, 0, none⟩ 1 (ps.flatMap ec) (ec el) rfl rfl how hin (by omega) (Nat.le_trans HF.out.size hfr3.size) ?_
        intro v' V4 hr hf
        have hnb : Bn V4 w.heap.size v' (ps ++ [el]) := HP.out.add hfr3 hr hf hsyE
        have hnf : Fr No w V4 := (HF.out.trans hfr3).trans2 (blk_own hf how)
        have hnBp : ∀ bb, ¬ bb < wr.heap.size → ¬ BlkB (.slice pa ps.length pc) bb := fun bb h1 h2 => by have := (wrow_lt HP.out.row h2).2; omega
        have hS3 := hSf (hfV2.trans hf23)
        have hlP : bp < V3.heap.size := Nat.lt_of_lt_of_le (lt_of HBP.out) (hfV2.trans hf23).size
        have hlQ : bq < V3.heap.size := Nat.lt_of_lt_of_le (lt_of HBQ.out) (hfV2.trans hf23).size
        have hS4 : ((V4.cell? ⟨bp, 0, none⟩ = some (.int .i64 (x1 : Nat)) ∧ V4.cell? ⟨bp, 1, none⟩ = some (.slice x2 x4 x5)) ∧ (V4.cell? ⟨bq, 0, none⟩ = some (.int .i64 (y1 : Nat)) ∧ V4.cell? ⟨bq, 1, none⟩ = some (.slice y2 y4 y5))) := ⟨⟨(hf.cell (p := ⟨bp, 0, none⟩) hlP (hnBp _ hbpw)).trans hS3.1.1, (hf.cell (p := ⟨bp, 1, none⟩) hlP (hnBp _ hbpw)).trans hS3.1.2⟩, ⟨(hf.cell (p := ⟨bq, 0, none⟩) hlQ (hnBp _ hbqw)).trans hS3.2.1, (hf.cell (p := ⟨bq, 1, none⟩) hlQ (hnBp _ hbqw)).trans hS3.2.2⟩⟩
        refine hK' _ _ hS4 ?_
        clear hK' K''
        have HNB := hide hnb
        have HNF := hide hnf
        have HEL := hide hel
        have HCN := hide hnc
        have hS0 := hS4
        refine wpAnyH_take (i := 15) (v := v') rfl (by kernel_rfl) (by kernel_rfl) (by kernel_rfl) (fun _ _ _ h => h) (Or.inl ⟨by kernel_rfl, by intro w _; go_simp⟩) hS0 ?_
        refine wpAnyH_done (by kernel_rfl) ?_ _
        simp only [List.getElem_toArray, List.getElem_cons_succ, List.getElem_cons_zero]
        go_frame
        clear hnb hnf hel hnc hS0 hS4 hS3 hlP hlQ hnBp hr hf hin how hfr3 hsyE hsz2 hb3 hf23 hvv hfV2 hSf hsb hfV1 HS0 HBP HBQ HFW HSX HSY hpsl c0 c1 d0 d1 c0a c1a d0a d1a c0b c1b d0b d1b
        have hcm2 : 2 ≤ cm := by have := HM.out; have := HCN.out; omega
        have hcm2i : (2 : Int) ≤ (cm : Int) := by omega
        have HEN : Hid ((ps ++ [el]).map pr ++ pairs ((es.map pr).drop (2 * (k + 1))) = pairs (es.map pr)) := by
          unfold Hid
          have h1 := pairs_drop (es.map pr) (2 * k) (by rw [List.length_map]; have := HNE.out; have := HM.out; omega)
          have hg : ∀ i, i < es.length → (es.map pr).getD i (0, []) = pr (es.getD i ed) := fun i hi => by rw [List.getD, List.getD, List.getElem?_map, List.getElem?_eq_getElem hi]; rfl
          rw [hg _ (by have := HNE.out; have := HM.out; omega), hg _ (by have := HNE.out; have := HM.out; omega), ← HX.out.1, ← HX.out.2] at h1
          rw [← HE.out, h1, List.map_append, List.map_singleton, HEL.out, HZ.out, List.append_assoc]
          rfl
        by_cases hcq : cm = 2
        · subst hcq
          go_wp2_with fail
          refine ⟨⟨k + 1, some ⟨g', 4 * k, none⟩, ps ++ [el], by have := HM.out; omega, ?_, ?_, HNB.out, HEN.out, HNF.out⟩, ?_⟩
          · congr 1
            · have := HM.out; omega
            · have := HM.out; omega
          · intro g2 h2 e2
            have := HM.out
            have := HCN.out
            omega
          · simp [lenOf]; omega
        · have hcq0 : ¬ cm - 2 = 0 := by omega
          go_wp2_with fail
          refine ⟨⟨k + 1, some ⟨g', 4 * k + 4, none⟩, ps ++ [el], by have := HM.out; omega, ?_, ?_, HNB.out, HEN.out, HNF.out⟩, ?_⟩
          · congr 1
            · have := HM.out; omega
            · have := HM.out; omega
          · intro g2 h2 e2
            rw [hg'] at e2
            injection e2 with e2
            injection e2 with e2
            subst e2
            congr 2
          · simp [lenOf]; omega
      · obtain ⟨W, hW⟩ : ∃ W, W = ((wr.alloc (.cells #[.int .i64 (y1 : Nat), .slice y2 y4 y5] 186)).alloc (.cells #[.int .i64 (x1 : Nat), .slice x2 x4 x5] 186)).drew := ⟨_, rfl⟩
        rw [← hW]
        have hfW : Fr No wr W := by rw [hW]; exact ((((Fr.refl No wr).alloc _).alloc _).drew)
        obtain ⟨bp, hbp⟩ : ∃ bp, bp = wr.heap.size + 1 := ⟨_, rfl⟩
        obtain ⟨bq, hbq⟩ : ∃ bq, bq = wr.heap.size := ⟨_, rfl⟩
        have hbP : W.heap[bp]? = some (.cells #[.int .i64 (x1 : Nat), .slice x2 x4 x5] 186 (0, 0)) := by rw [hbp]; rw [hW]; exact alloc2_at wr _ _
        have hbQ : W.heap[bq]? = some (.cells #[.int .i64 (y1 : Nat), .slice y2 y4 y5] 186 (0, 0)) := by rw [hbq]; rw [hW]; exact alloc_old (alloc_at wr _)
        rw [← hbp, ← hbq]
        have hsW : wr.heap.size ≤ W.heap.size := hfW.size
        have hbpw : ¬ bp < wr.heap.size := by omega
        have hbqw : ¬ bq < wr.heap.size := by omega
        have HBP := hide hbP
        have HBQ := hide hbQ
        have HFW := hide hfW
        have HS0 : Hid ((W.cell? ⟨bp, 0, none⟩ = some (.int .i64 (x1 : Nat)) ∧ W.cell? ⟨bp, 1, none⟩ = some (.slice x2 x4 x5)) ∧ (W.cell? ⟨bq, 0, none⟩ = some (.int .i64 (y1 : Nat)) ∧ W.cell? ⟨bq, 1, none⟩ = some (.slice y2 y4 y5))) := ⟨⟨by rw [cell_of hbP]; rfl, by rw [cell_of hbP]; rfl⟩, ⟨by rw [cell_of hbQ]; rfl, by rw [cell_of hbQ]; rfl⟩⟩
        clear hW hbp hbq hbP hbQ hfW
        go_upto_region 5 with fail
        refine wp_region_held (S := fun W => ((W.cell? ⟨bp, 0, none⟩ = some (.int .i64 (x1 : Nat)) ∧ W.cell? ⟨bp, 1, none⟩ = some (.slice x2 x4 x5)) ∧ (W.cell? ⟨bq, 0, none⟩ = some (.int .i64 (y1 : Nat)) ∧ W.cell? ⟨bq, 1, none⟩ = some (.slice y2 y4 y5)))) (by kernel_rfl) ?_
        change wpAnyH _ _ _ _ _ _ _ _ (World.drew _)
        have hS0 : (((World.drew W).cell? ⟨bp, 0, none⟩ = some (.int .i64 (x1 : Nat)) ∧ (World.drew W).cell? ⟨bp, 1, none⟩ = some (.slice x2 x4 x5)) ∧ ((World.drew W).cell? ⟨bq, 0, none⟩ = some (.int .i64 (y1 : Nat)) ∧ (World.drew W).cell? ⟨bq, 1, none⟩ = some (.slice y2 y4 y5))) := HS0.out
        refine wpAnyH_take (i := 0) (v := .slice pa ps.length pc) rfl (by kernel_rfl) (by kernel_rfl) (by kernel_rfl) (fun _ _ _ h => h) (Or.inl ⟨by kernel_rfl, by intro w _; go_simp⟩) hS0 ?_
        refine wpAnyH_take (i := 1) (v := .pointer (some ⟨bp, 0, none⟩)) rfl (by kernel_rfl) (by kernel_rfl) (by kernel_rfl) (fun _ _ _ h => h) (Or.inl ⟨by kernel_rfl, by intro w _; go_simp⟩) hS0 ?_
        refine wpAnyH_take (i := 2) (v := .int .i64 (x1 : Nat)) rfl (by kernel_rfl) (by kernel_rfl) (by kernel_rfl) (fun _ _ _ h => h) (Or.inl ⟨by kernel_rfl, by intro w h; have h := h.1.1; go_simp⟩) hS0 ?_
        refine wpAnyH_take (i := 3) (v := .pointer (some ⟨bq, 0, none⟩)) rfl (by kernel_rfl) (by kernel_rfl) (by kernel_rfl) (fun _ _ _ h => h) (Or.inl ⟨by kernel_rfl, by intro w _; go_simp⟩) hS0 ?_
        refine wpAnyH_take (i := 4) (v := .int .i64 (y1 : Nat)) rfl (by kernel_rfl) (by kernel_rfl) (by kernel_rfl) (fun _ _ _ h => h) (Or.inl ⟨by kernel_rfl, by intro w h; have h := h.2.1; go_simp⟩) hS0 ?_
        refine wpAnyH_take (i := 5) (v := .int .i64 (z : Nat)) rfl (by kernel_rfl) (by kernel_rfl) (by kernel_rfl) (fun _ _ _ h => h) (Or.inl ⟨by kernel_rfl, by intro w _; go_simp⟩) hS0 ?_
        refine wpAnyH_take (i := 6) (v := .pointer (some ⟨bp, 1, none⟩)) rfl (by kernel_rfl) (by kernel_rfl) (by kernel_rfl) (fun _ _ _ h => h) (Or.inl ⟨by kernel_rfl, by intro w _; go_simp⟩) hS0 ?_
        refine wpAnyH_take (i := 7) (v := .slice x2 x4 x5) rfl (by kernel_rfl) (by kernel_rfl) (by kernel_rfl) (fun _ _ _ h => h) (Or.inl ⟨by kernel_rfl, by intro w h; have h := h.1.2; go_simp⟩) hS0 ?_
        refine wpAnyH_take (i := 8) (v := .pointer (some ⟨bq, 1, none⟩)) rfl (by kernel_rfl) (by kernel_rfl) (by kernel_rfl) (fun _ _ _ h => h) (Or.inl ⟨by kernel_rfl, by intro w _; go_simp⟩) hS0 ?_
        refine wpAnyH_take (i := 9) (v := .slice y2 y4 y5) rfl (by kernel_rfl) (by kernel_rfl) (by kernel_rfl) (fun _ _ _ h => h) (Or.inl ⟨by kernel_rfl, by intro w h; have h := h.2.2; go_simp⟩) hS0 ?_
        refine wpAnyH_one (i := 10) (by kernel_rfl) rfl (by kernel_rfl) (fun K'' hK' => ?_)
        go_simp
        obtain ⟨V1, hV1⟩ : ∃ V1, V1 = World.drew (W.alloc (.cells #[.slice x2 x4 x5, .slice y2 y4 y5] 62)) := ⟨_, rfl⟩
        rw [← hV1]
        have hfV1 : Fr No W V1 := by rw [hV1]; exact ((Fr.refl No W).alloc _).drew
        have hsb : V1.heap[W.heap.size]? = some (.cells #[.slice x2 x4 x5, .slice y2 y4 y5] 62 (0, 0)) := by rw [hV1]; exact alloc_at W _
        clear hV1
        have hSf : ∀ {V : World}, Fr No W V → ((V.cell? ⟨bp, 0, none⟩ = some (.int .i64 (x1 : Nat)) ∧ V.cell? ⟨bp, 1, none⟩ = some (.slice x2 x4 x5)) ∧ (V.cell? ⟨bq, 0, none⟩ = some (.int .i64 (y1 : Nat)) ∧ V.cell? ⟨bq, 1, none⟩ = some (.slice y2 y4 y5))) := fun {V} f => ⟨⟨(f.cell (p := ⟨bp, 0, none⟩) (lt_of HBP.out) (no_no _)).trans HS0.out.1.1, (f.cell (p := ⟨bp, 1, none⟩) (lt_of HBP.out) (no_no _)).trans HS0.out.1.2⟩, ⟨(f.cell (p := ⟨bq, 0, none⟩) (lt_of HBQ.out) (no_no _)).trans HS0.out.2.1, (f.cell (p := ⟨bq, 1, none⟩) (lt_of HBQ.out) (no_no _)).trans HS0.out.2.2⟩⟩
        refine hK' _ _ (hSf hfV1) ?_
        clear hK' K''
        refine wpAnyH_one (i := 11) (by kernel_rfl) rfl (by kernel_rfl) (fun K'' hK' => ?_)
        go_simp
        refine (concatI_any x3.length y3.length W.heap.size 2 (.slice x2 x4 x5) (.slice y2 y4 y5) (ivl x3) (ivl y3) V1 (HSX.out.fr ((HFW.out).trans hfV1) (fun _ _ => no_no _)) (HSY.out.fr ((HFW.out).trans hfV1) (fun _ _ => no_no _)) hsb (by omega)).mono ?_
        rintro ee V2 ⟨vv, rfl, hvv, hfV2⟩
        obtain ⟨va, vc, hvf, _⟩ := orow_form hvv
        subst hvf
        have hfV2 : Fr No W V2 := hfV1.trans hfV2
        have hS0 := hSf hfV2
        refine hK' _ _ hS0 ?_
        clear hK' K''
        obtain ⟨zl, hzl⟩ : ∃ zl, zl = x3.length + y3.length := ⟨_, rfl⟩
        rw [← hzl] at hvv ⊢
        have HZL := hide hzl
        clear hzl
        refine wpAnyH_take (i := 12) (v := .agg #[.int .i64 (z : Nat), .slice va zl vc]) rfl (by kernel_rfl) (by kernel_rfl) (by kernel_rfl) (fun _ _ _ h => h) (Or.inl ⟨by kernel_rfl, by intro w _; go_simp⟩) hS0 ?_
        refine wpAnyH_one (i := 13) (by kernel_rfl) rfl (by kernel_rfl) (fun K'' hK' => ?_)
        go_simp
        obtain ⟨V3, hV3⟩ : ∃ V3, V3 = V2.alloc (.cells #[.int .i64 (z : Nat), .slice va zl vc] 186) := ⟨_, rfl⟩
        rw [← hV3]
        have hf23 : Fr No V2 V3 := by rw [hV3]; exact (Fr.refl No V2).alloc _
        have hb3 : V3.heap[V2.heap.size]? = some (.cells #[.int .i64 (z : Nat), .slice va zl vc] 186 (0, 0)) := by rw [hV3]; exact alloc_at V2 _
        clear hV3
        refine hK' _ _ (hSf (hfV2.trans hf23)) ?_
        clear hK' K''
        refine wpAnyH_one (i := 14) (by kernel_rfl) rfl (by kernel_rfl) (fun K'' hK' => ?_)
        obtain ⟨el, hel⟩ : ∃ el : El, el = (z, ((va, (zl, vc)), x3 ++ y3)) := ⟨_, rfl⟩
        have hsz2 : w.heap.size ≤ V1.heap.size := Nat.le_trans (HF.out.size) (Nat.le_trans hsW hfV1.size)
        have hsyE : V3.ownsRow w.heap.size 3 1 (sv el) el.2.2.length (ivl el.2.2) := by
          rw [hel]
          have := ownsRow_fr (orow_base hvv hsz2) hf23 (fun _ _ => no_no _)
          rw [ivl_app] at this
          show V3.ownsRow w.heap.size 3 1 (.slice va zl vc) (x3 ++ y3).length (ivl (x3 ++ y3))
          rw [List.length_append, ← HZL.out]
          exact this
        have hfr3 : Fr No wr V3 := HFW.out.trans (hfV2.trans hf23)
        have how : V3.ownsRow w.heap.size 186 2 (.slice pa ps.length pc) ps.length (ps.flatMap ec) := ownsRow_fr HP.out.row hfr3 (fun _ _ => no_no _)
        have hin : SlIn V3 2 (.slice (some ⟨V2.heap.size, 0, none⟩) 1 1) 1 (ec el) := by
          rw [hel]
          refine ⟨rfl, fun u hu => by simp [ec, sv] at hu; rcases hu with rfl | rfl <;> rfl, _, _, rfl, .inr ⟨_, rfl, lt_of hb3, fun j u hj => ?_⟩⟩
          match j, hj with
          | 0, hj => simp [ec] at hj; subst hj; exact cell_of hb3 0
          | 1, hj => simp [ec, sv] at hj; subst hj; exact cell_of hb3 1
        have hpsl : ps.length ≤ 1000 := by
          have h1 := congrArg List.length HE.out
          rw [List.length_append, List.length_map, pairs_len, pairs_len, List.length_map] at h1
          have := HNE.out
          omega
        refine appBo rfl _ (.tmp 17) (.tmp 30) rfl w.heap.size ps.length (.slice pa ps.length pc) ⟨V2.heap.size, 0, none⟩ 1 (ps.flatMap ec) (ec el) rfl rfl how hin (by omega) (Nat.le_trans HF.out.size hfr3.size) ?_
        intro v' V4 hr hf
        have hnb : Bn V4 w.heap.size v' (ps ++ [el]) := HP.out.add hfr3 hr hf hsyE
        have hnf : Fr No w V4 := (HF.out.trans hfr3).trans2 (blk_own hf how)
        have hnBp : ∀ bb, ¬ bb < wr.heap.size → ¬ BlkB (.slice pa ps.length pc) bb := fun bb h1 h2 => by have := (wrow_lt HP.out.row h2).2; omega
        have hS3 := hSf (hfV2.trans hf23)
        have hlP : bp < V3.heap.size := Nat.lt_of_lt_of_le (lt_of HBP.out) (hfV2.trans hf23).size
        have hlQ : bq < V3.heap.size := Nat.lt_of_lt_of_le (lt_of HBQ.out) (hfV2.trans hf23).size
        have hS4 : ((V4.cell? ⟨bp, 0, none⟩ = some (.int .i64 (x1 : Nat)) ∧ V4.cell? ⟨bp, 1, none⟩ = some (.slice x2 x4 x5)) ∧ (V4.cell? ⟨bq, 0, none⟩ = some (.int .i64 (y1 : Nat)) ∧ V4.cell? ⟨bq, 1, none⟩ = some (.slice y2 y4 y5))) := ⟨⟨(hf.cell (p := ⟨bp, 0, none⟩) hlP (hnBp _ hbpw)).trans hS3.1.1, (hf.cell (p := ⟨bp, 1, none⟩) hlP (hnBp _ hbpw)).trans hS3.1.2⟩, ⟨(hf.cell (p := ⟨bq, 0, none⟩) hlQ (hnBp _ hbqw)).trans hS3.2.1, (hf.cell (p := ⟨bq, 1, none⟩) hlQ (hnBp _ hbqw)).trans hS3.2.2⟩⟩
        refine hK' _ _ hS4 ?_
        clear hK' K''
        have HNB := hide hnb
        have HNF := hide hnf
        have HEL := hide hel
        have HCN := hide hnc
        have hS0 := hS4
        refine wpAnyH_take (i := 15) (v := v') rfl (by kernel_rfl) (by kernel_rfl) (by kernel_rfl) (fun _ _ _ h => h) (Or.inl ⟨by kernel_rfl, by intro w _; go_simp⟩) hS0 ?_
        refine wpAnyH_done (by kernel_rfl) ?_ _
        simp only [List.getElem_toArray, List.getElem_cons_succ, List.getElem_cons_zero]
        go_frame
        clear hnb hnf hel hnc hS0 hS4 hS3 hlP hlQ hnBp hr hf hin how hfr3 hsyE hsz2 hb3 hf23 hvv hfV2 hSf hsb hfV1 HS0 HBP HBQ HFW HSX HSY hpsl c0 c1 d0 d1 c0a c1a d0a d1a c0b c1b d0b d1b
        have hcm2 : 2 ≤ cm := by have := HM.out; have := HCN.out; omega
        have hcm2i : (2 : Int) ≤ (cm : Int) := by omega
        have HEN : Hid ((ps ++ [el]).map pr ++ pairs ((es.map pr).drop (2 * (k + 1))) = pairs (es.map pr)) := by
          unfold Hid
          have h1 := pairs_drop (es.map pr) (2 * k) (by rw [List.length_map]; have := HNE.out; have := HM.out; omega)
          have hg : ∀ i, i < es.length → (es.map pr).getD i (0, []) = pr (es.getD i ed) := fun i hi => by rw [List.getD, List.getD, List.getElem?_map, List.getElem?_eq_getElem hi]; rfl
          rw [hg _ (by have := HNE.out; have := HM.out; omega), hg _ (by have := HNE.out; have := HM.out; omega), ← HX.out.1, ← HX.out.2] at h1
          rw [← HE.out, h1, List.map_append, List.map_singleton, HEL.out, HZ.out, List.append_assoc]
          rfl
        by_cases hcq : cm = 2
        · subst hcq
          go_wp2_with fail
          refine ⟨⟨k + 1, some ⟨g', 4 * k, none⟩, ps ++ [el], by have := HM.out; omega, ?_, ?_, HNB.out, HEN.out, HNF.out⟩, ?_⟩
          · congr 1
            · have := HM.out; omega
            · have := HM.out; omega
          · intro g2 h2 e2
            have := HM.out
            have := HCN.out
            omega
          · simp [lenOf]; omega
        · have hcq0 : ¬ cm - 2 = 0 := by omega
          go_wp2_with fail
          refine ⟨⟨k + 1, some ⟨g', 4 * k + 4, none⟩, ps ++ [el], by have := HM.out; omega, ?_, ?_, HNB.out, HEN.out, HNF.out⟩, ?_⟩
          · congr 1
            · have := HM.out; omega
            · have := HM.out; omega
          · intro g2 h2 e2
            rw [hg'] at e2
            injection e2 with e2
            injection e2 with e2
            subst e2
            congr 2
          · simp [lenOf]; omega
    · have hm2 : ¬ (2 : Int) ≤ (m : Int) := by omega
      go_wp2
      go_ret
      refine ⟨_, ps, rfl, HP.out, ?_, HF.out⟩
      have h1 := HE.out
      rw [pairs_short (es.map pr) (2 * k) (by rw [List.length_map]; have := HNE.out; omega), List.append_nil] at h1
      exact h1
end Go.Proofs.YtjjjlilflbddoaaGreatDoor
