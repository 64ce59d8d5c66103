import Derived.Test.YtjjjlilflbddoaaGreatDoorFFeed
/-
  Two decoders of the program and two of the document, side by side.
-/
namespace Go.Proofs.YtjjjlilflbddoaaGreatDoor
open Go.RowKit

section
variable {sp : Nat → Addr} {B1 d1 t1 m1 B2 d2 t2 m2 : Nat} {Z Z' G : List Nat} {x y : Gz.Dec} {w w' : World}
theorem Both.reZ (h : Both sp B1 d1 t1 m1 B2 d2 t2 m2 Z x y w) (hZ : ∀ k ∈ Z', k ∈ Z) : Both sp B1 d1 t1 m1 B2 d2 t2 m2 Z' x y w := ⟨h.one, h.two, h.apart, fun k hk => h.off k (hZ k hk)⟩
/-- Something else changes a block of its own. -/
theorem Both.aside {c : Nat} (h : Both sp B1 d1 t1 m1 B2 d2 t2 m2 Z x y w) (f : Fr (One c) w w') (hc : c ∈ Z) (hg : 16 ≤ c) (ht : ¬ Tg w c) (hG : ∀ g ∈ G, w.heap.size ≤ g ∧ g < w'.heap.size) : Both sp B1 d1 t1 m1 B2 d2 t2 m2 (G ++ Z) x y w' := by
  obtain ⟨K1, h1⟩ := h.one
  obtain ⟨K2, h2⟩ := h.two
  have hm := h.off c hc
  have hT : ∀ k, Tg w k → ¬ One c k := fun k hk e => by have e' : k = c := e; subst e'; exact ht hk
  have hE : ∀ k, k < 16 → ¬ One c k := fun k hk e => by have e' : k = c := e; omega
  obtain ⟨h1', e1⟩ := h1.beside f (fun k hk e => by have e' : k = c := e; subst e'; exact hm.2.1 hk) hT hE
  obtain ⟨h2', e2⟩ := h2.beside f (fun k hk e => by have e' : k = c := e; subst e'; exact hm.2.2 hk) hT hE
  refine ⟨⟨K1, h1'⟩, ⟨K2, h2'⟩, fun k a b => h.apart k ((e1 k).1 a) ((e2 k).1 b), fun k hk => ?_⟩
  rcases List.mem_append.1 hk with hk | hk
  · refine ⟨(hG k hk).2, fun a => ?_, fun a => ?_⟩
    · have := (h1.mu ((e1 k).1 a)).2.2.1; have := (hG k hk).1; omega
    · have := (h2.mu ((e2 k).1 a)).2.2.1; have := (hG k hk).1; omega
  · exact ⟨Nat.lt_of_lt_of_le (h.off k hk).1 f.size, fun a => (h.off k hk).2.1 ((e1 k).1 a), fun a => (h.off k hk).2.2 ((e2 k).1 a)⟩
end

/-- All four of them; X: blocks that are nobody's. -/
structure Mem (sp : Nat → Addr) (Bs B1 d1 t1 m1 B2 d2 t2 m2 c1 c2 : Nat) (Z1 Z2 X : List Nat) (x y : Gz.Dec) (r s : Rf.Dec) (w : World) : Prop where
  both : Both sp B1 d1 t1 m1 B2 d2 t2 m2 (c1 :: c2 :: (Z1 ++ (Z2 ++ X))) x y w
  one : RDec w c1 Z1 r
  two : RDec w c2 Z2 s
  ne : c1 ≠ c2
  n12 : c1 ∉ Z2
  n21 : c2 ∉ Z1
  bg : 16 ≤ Bs
  b1 : Bs ≤ B1
  b2 : Bs ≤ B2
  k1 : Bs ≤ c1
  k2 : Bs ≤ c2
section
variable {sp : Nat → Addr} {Bs B1 d1 t1 m1 B2 d2 t2 m2 c1 c2 : Nat} {Z1 Z2 X G : List Nat} {x x' y : Gz.Dec} {r r' s : Rf.Dec} {w w' : World}
theorem Mem.swap (h : Mem sp Bs B1 d1 t1 m1 B2 d2 t2 m2 c1 c2 Z1 Z2 X x y r s w) : Mem sp Bs B2 d2 t2 m2 B1 d1 t1 m1 c2 c1 Z2 Z1 X y x s r w :=
  ⟨h.both.swap.reZ (fun k hk => by simp only [List.mem_cons, List.mem_append] at hk ⊢; rcases hk with h | h | h | h | h <;> simp [h]), h.two, h.one, fun e => h.ne e.symm, h.n21, h.n12, h.bg, h.b2, h.b1, h.k2, h.k1⟩
/-- New blocks are nobody's. -/
theorem Mem.still (h : Mem sp Bs B1 d1 t1 m1 B2 d2 t2 m2 c1 c2 Z1 Z2 X x y r s w) (f : Fr No w w') (hG : ∀ g ∈ G, w.heap.size ≤ g ∧ g < w'.heap.size) : Mem sp Bs B1 d1 t1 m1 B2 d2 t2 m2 c1 c2 Z1 Z2 (G ++ X) x y r s w' := by
  refine ⟨(h.both.still f hG).reZ (fun k hk => ?_), h.one.same f.size (fun k hk => ?_), h.two.same f.size (fun k hk => ?_), h.ne, h.n12, h.n21, h.bg, h.b1, h.b2, h.k1, h.k2⟩
  · simp only [List.mem_cons, List.mem_append] at hk ⊢
    rcases hk with h | h | h | h | h | h <;> simp [h]
  · refine f.block k ?_ (no_no _)
    exact (h.both.off k (by rcases List.mem_cons.1 hk with h | h <;> simp [h])).1
  · refine f.block k ?_ (no_no _)
    exact (h.both.off k (by rcases List.mem_cons.1 hk with h | h <;> simp [h])).1
/-- Less is nobody's. -/
theorem Mem.less {X' : List Nat} (h : Mem sp Bs B1 d1 t1 m1 B2 d2 t2 m2 c1 c2 Z1 Z2 X x y r s w) (hX : ∀ k ∈ X', k ∈ X) : Mem sp Bs B1 d1 t1 m1 B2 d2 t2 m2 c1 c2 Z1 Z2 X' x y r s w := by
  refine ⟨h.both.reZ (fun k hk => ?_), h.one, h.two, h.ne, h.n12, h.n21, h.bg, h.b1, h.b2, h.k1, h.k2⟩
  simp only [List.mem_cons, List.mem_append] at hk ⊢
  rcases hk with h | h | h | h | h
  · simp [h]
  · simp [h]
  · simp [h]
  · simp [h]
  · simp [hX k h]
/-- A call of the program's first decoder. -/
theorem Mem.left (h : Mem sp Bs B1 d1 t1 m1 B2 d2 t2 m2 c1 c2 Z1 Z2 X x y r s w) (hL : Left sp B1 d1 t1 m1 B2 d2 t2 m2 (c1 :: c2 :: (Z1 ++ (Z2 ++ X))) x' y w w') :
    Mem sp Bs B1 d1 t1 m1 B2 d2 t2 m2 c1 c2 Z1 Z2 X x' y r s w' ∧ (∀ k ∈ X, w'.heap[k]? = w.heap[k]?) ∧ Fr (fun k => Bs ≤ k) w w' := by
  refine ⟨⟨hL.both, h.one.same hL.fr.size (fun k hk => hL.same k ?_), h.two.same hL.fr.size (fun k hk => hL.same k ?_), h.ne, h.n12, h.n21, h.bg, h.b1, h.b2, h.k1, h.k2⟩, fun k hk => hL.same k (by simp [hk]), hL.fr.mono (fun k _ e => Nat.le_trans h.b1 e)⟩
  · rcases List.mem_cons.1 hk with h | h <;> simp [h]
  · rcases List.mem_cons.1 hk with h | h <;> simp [h]
/-- A call of the document's first decoder. -/
theorem Mem.ref (h : Mem sp Bs B1 d1 t1 m1 B2 d2 t2 m2 c1 c2 Z1 Z2 X x y r s w) (f : Fr (One c1) w w') (hG : ∀ g ∈ G, w.heap.size ≤ g ∧ g < w'.heap.size) (hr : RDec w' c1 (G ++ Z1) r') :
    Mem sp Bs B1 d1 t1 m1 B2 d2 t2 m2 c1 c2 (G ++ Z1) Z2 X x y r' s w' ∧ (∀ k ∈ X, k ≠ c1 → w'.heap[k]? = w.heap[k]?) ∧ Fr (fun k => Bs ≤ k) w w' := by
  have hc2 := (h.both.off c2 (by simp)).1
  have hnT : ¬ Tg w c1 := by
    rintro ⟨cc, ty, e, ht⟩
    obtain ⟨t, kv, hb, _⟩ := h.one.blk
    unfold Rb at hb
    rw [hb] at e
    injection e with e
    injection e with _ e
    rw [← e] at ht
    revert ht
    decide
  refine ⟨⟨(h.both.aside (G := G) f (by simp) (Nat.le_trans h.bg h.k1) hnT hG).reZ (fun k hk => ?_), hr, h.two.same f.size (fun k hk => ?_), h.ne, h.n12, fun hm => ?_, h.bg, h.b1, h.b2, h.k1, h.k2⟩, fun k hk hne => f.block k (h.both.off k (by simp [hk])).1 (one_ne hne), f.mono (fun k _ e => by have e' : k = c1 := e; rw [e']; exact h.k1)⟩
  · simp only [List.mem_cons, List.mem_append] at hk ⊢
    rcases hk with h | h | (h | h) | h | h <;> simp [h]
  · refine f.block k (h.both.off k (by rcases List.mem_cons.1 hk with h | h <;> simp [h])).1 (one_ne (fun e => ?_))
    rcases List.mem_cons.1 hk with h' | h'
    · exact h.ne (e.symm.trans h')
    · exact h.n12 (e ▸ h')
  · rcases List.mem_append.1 hm with hm | hm
    · have := (hG _ hm).1; omega
    · exact h.n21 hm
end
end Go.Proofs.YtjjjlilflbddoaaGreatDoor
namespace Go.Proofs.YtjjjlilflbddoaaGreatDoor
open Go.RowKit

theorem numF_any (k : Nat) (w : World) : Calls Tryz.prog 8 #[.int .i64 (k : Nat)] w fun e w' => e = .returned (.int .i64 (k : Nat)) ∧ w' = w := by
  go_enter Tryz.func8, Tryz.ntmps8
  go_wp2
  go_ret
  exact ⟨rfl, rfl⟩
theorem DecAt.dbF {sp : Nat → Addr} {B dcb tsb mb : Nat} {K : List Nat} {x : Gz.Dec} {w : World} (h : DecAt sp B dcb tsb mb K x w) : ∃ rv room, Db w dcb tsb rv room x.begun x.told := by
  cases hon : x.on with
  | false => obtain ⟨room, _, hb⟩ := h.off hon; exact ⟨_, room, hb⟩
  | true => obtain ⟨rb, s, mL, hb, _⟩ := h.on hon; exact ⟨_, _, hb⟩
/-- What is around. -/
structure Amid (sp : Nat → Addr) (Bs : Nat) (w : World) : Prop where
  env : Env sp w
  blk : Blk sp w
  pow : Pow w
  ord : OrdAt w
  sp : ∀ k, 3 ≤ k → k ≤ 10 → (sp k).block < Bs
  bg : 16 ≤ Bs
  bw : Bs ≤ w.heap.size
theorem Amid.fr {sp : Nat → Addr} {Bs : Nat} {w w' : World} (h : Amid sp Bs w) (f : Fr (fun k => Bs ≤ k) w w') : Amid sp Bs w' := by
  have hg := h.bg
  have hz := h.env.size
  refine ⟨h.env.fr f (fun k hk e => by have e' : Bs ≤ k := e; omega), fun k h3 h8 => ?_, h.pow.fr f (by show 13 < _; omega) (by show ¬ Bs ≤ 13; omega), h.ord.fr f (by show ¬ Bs ≤ 11; omega) (by show 11 < _; omega), h.sp, hg, Nat.le_trans h.bw f.size⟩
  obtain ⟨c, t, hc⟩ := h.blk k h3 h8
  exact ⟨c, t, f.at hc (by show ¬ Bs ≤ (sp k).block; have := h.sp k h3 h8; omega)⟩
theorem Fr.above {Bs : Nat} {w w' : World} (f : Fr No w w') : Fr (fun k => Bs ≤ k) w w' := f.of_no
/-- What one call comes to. -/
def StepP (sp : Nat → Addr) (Bs B1 d1 t1 m1 B2 d2 t2 m2 c1 c2 : Nat) (Z2 X : List Nat) (x y : Gz.Dec) (s : Rf.Dec) (w : World) (e : Ending) (w' : World) : Prop :=
  e = .returned (.bool true) ∧ Fr (fun k => Bs ≤ k) w w' ∧ (∀ k ∈ X, w'.heap[k]? = w.heap[k]?) ∧ ∃ Z1 x' r', Mem sp Bs B1 d1 t1 m1 B2 d2 t2 m2 c1 c2 Z1 Z2 X x' y r' s w' ∧ Rel x' r' ∧ x'.tc.asked ≤ x.tc.asked + 32000
theorem StepP.drewN {sp : Nat → Addr} {Bs B1 d1 t1 m1 B2 d2 t2 m2 c1 c2 : Nat} {Z2 X : List Nat} {x y : Gz.Dec} {s : Rf.Dec} {w w' : World} {e : Ending} (h : StepP sp Bs B1 d1 t1 m1 B2 d2 t2 m2 c1 c2 Z2 X x y s w e w') (k : Nat) : StepP sp Bs B1 d1 t1 m1 B2 d2 t2 m2 c1 c2 Z2 X x y s w e (w'.drewN k) := by
  obtain ⟨h1, h2, h3, Z1, x', r', h4, h5, h6⟩ := h
  exact ⟨h1, h2.drewN k, h3, Z1, x', r', (h4.still (G := []) ((Fr.refl No w').drewN k) (fun g hg => by simp at hg)).less (fun _ h => by simp [h]), h5, h6⟩
/-- The way from where the pair and the part lie to the end. -/
theorem step_end {sp : Nat → Addr} {Bs B1 d1 t1 m1 B2 d2 t2 m2 c1 c2 : Nat} {Z1 Z2 X X1 : List Nat} {x x' y : Gz.Dec} {r' s : Rf.Dec} {w w1 w' : World} (hXl : ∀ k ∈ X, k < w.heap.size) (f1 : Fr No w w1) (f : Fr (fun k => Bs ≤ k) w1 w') (hX : ∀ k ∈ X, k ∈ X1) (hS : ∀ k ∈ X1, w'.heap[k]? = w1.heap[k]?)
    (hM : Mem sp Bs B1 d1 t1 m1 B2 d2 t2 m2 c1 c2 Z1 Z2 X1 x' y r' s w') (hR : Rel x' r') (ha : x'.tc.asked ≤ x.tc.asked + 32000) : StepP sp Bs B1 d1 t1 m1 B2 d2 t2 m2 c1 c2 Z2 X x y s w (.returned (.bool true)) w' :=
  ⟨rfl, (f1.above).trans f, fun k hk => (hS k (hX k hk)).trans (f1.block k (hXl k hk) (no_no _)), Z1, x', r', hM.less hX, hR, ha⟩
theorem Fr.trans' {S : Nat → Prop} {a b c : World} (h : Fr S a b) (h2 : Fr S b c) : Fr S a c := h.trans h2

set_option maxRecDepth 100000 in
set_option maxHeartbeats 8000000 in
theorem step_any (sp : Nat → Addr) (Bs B1 d1 t1 m1 B2 d2 t2 m2 c1 c2 : Nat) (Z1 Z2 X : List Nat) (x y : Gz.Dec) (r s : Rf.Dec) (kd wd nn : Int) (t : ByteArray) (w : World) (hM : Mem sp Bs B1 d1 t1 m1 B2 d2 t2 m2 c1 c2 Z1 Z2 X x y r s w) (hR : Rel x r) (hA : Amid sp Bs w)
    (ha : x.tc.asked + 32000 < 2 ^ 62) (ht : t.size < 2 ^ 62) (hXc : c1 ∉ X) :
    Calls Tryz.prog 11 #[.agg #[.pointer (some ⟨d1, 0, none⟩), .pointer (some ⟨c1, 0, none⟩)], .agg #[.int .i64 kd, .int .i64 wd, .int .i64 nn, .string t]] w (StepP sp Bs B1 d1 t1 m1 B2 d2 t2 m2 c1 c2 Z2 X x y s w) := by
  obtain ⟨w1, hw1⟩ : ∃ w1, w1 = (w.alloc (.cells #[.pointer (some ⟨d1, 0, none⟩), .pointer (some ⟨c1, 0, none⟩)] 36)).alloc (.cells #[.int .i64 kd, .int .i64 wd, .int .i64 nn, .string t] 38) := ⟨_, rfl⟩
  have f1 : Fr No w w1 := by rw [hw1]; exact ((Fr.refl _ _).alloc _).alloc _
  have hs1 : w1.heap.size = w.heap.size + 2 := by rw [hw1, World.size_alloc, World.size_alloc]
  have hXl : ∀ k ∈ X, k < w.heap.size := fun k hk => (hM.both.off k (by simp [hk])).1
  have hcl : c1 < w.heap.size := (hM.both.off c1 (by simp)).1
  obtain ⟨pb, hpb⟩ : ∃ pb, pb = w.heap.size := ⟨_, rfl⟩
  obtain ⟨ob, hob⟩ : ∃ ob, ob = w.heap.size + 1 := ⟨_, rfl⟩
  have hP1 : w1.heap[pb]? = some (.cells #[.pointer (some ⟨d1, 0, none⟩), .pointer (some ⟨c1, 0, none⟩)] 36 (0, 0)) := by rw [hw1, hpb]; exact alloc_old (alloc_at w _)
  have hO1 : w1.heap[ob]? = some (.cells #[.int .i64 kd, .int .i64 wd, .int .i64 nn, .string t] 38 (0, 0)) := by
    rw [hw1, hob]
    have := alloc_at (w.alloc (.cells #[.pointer (some ⟨d1, 0, none⟩), .pointer (some ⟨c1, 0, none⟩)] 36)) (.cells #[.int .i64 kd, .int .i64 wd, .int .i64 nn, .string t] 38)
    rw [World.size_alloc] at this
    exact this
  have hM1 : Mem sp Bs B1 d1 t1 m1 B2 d2 t2 m2 c1 c2 Z1 Z2 ([pb, ob] ++ X) x y r s w1 := hM.still (G := [pb, ob]) f1 (fun g hg => by
    simp only [List.mem_cons, List.not_mem_nil, or_false] at hg
    rcases hg with rfl | rfl <;> omega)
  have hXX : ∀ k ∈ X, k ∈ [pb, ob] ++ X := fun k hk => List.mem_append.2 (.inr hk)
  have hne : ∀ k ∈ [pb, ob] ++ X, k ≠ c1 := fun k hk e => by
    simp only [List.mem_append, List.mem_cons, List.not_mem_nil, or_false] at hk
    rcases hk with (rfl | rfl) | h
    · omega
    · omega
    · exact hXc (e ▸ h)
  have hend : ∀ (Z1' : List Nat) (x' : Gz.Dec) (r' : Rf.Dec) (w' : World), Fr (fun k => Bs ≤ k) w1 w' → (∀ k ∈ [pb, ob] ++ X, w'.heap[k]? = w1.heap[k]?) → Mem sp Bs B1 d1 t1 m1 B2 d2 t2 m2 c1 c2 Z1' Z2 ([pb, ob] ++ X) x' y r' s w' → Rel x' r' → x'.tc.asked ≤ x.tc.asked + 32000 →
      StepP sp Bs B1 d1 t1 m1 B2 d2 t2 m2 c1 c2 Z2 X x y s w (.returned (.bool true)) w' := fun _ _ _ _ f hS hM' hR' ha' => step_end hXl f1 f hXX hS hM' hR' ha'
  have hA1 : Amid sp Bs w1 := hA.fr f1.above
  have p0 : w1.cell? ⟨pb, 0, none⟩ = some (.pointer (some ⟨d1, 0, none⟩)) := by rw [cell_of hP1]; rfl
  have p1 : w1.cell? ⟨pb, 1, none⟩ = some (.pointer (some ⟨c1, 0, none⟩)) := by rw [cell_of hP1]; rfl
  have o0 : w1.cell? ⟨ob, 0, none⟩ = some (.int .i64 kd) := by rw [cell_of hO1]; rfl
  have o2 : w1.cell? ⟨ob, 2, none⟩ = some (.int .i64 nn) := by rw [cell_of hO1]; rfl
  have o3 : w1.cell? ⟨ob, 3, none⟩ = some (.string t) := by rw [cell_of hO1]; rfl
  have hcell : ∀ w' : World, (∀ k ∈ [pb, ob] ++ X, w'.heap[k]? = w1.heap[k]?) → w'.cell? ⟨pb, 1, none⟩ = some (.pointer (some ⟨c1, 0, none⟩)) ∧ w'.cell? ⟨ob, 2, none⟩ = some (.int .i64 nn) ∧ w'.cell? ⟨ob, 3, none⟩ = some (.string t) := fun w' h =>
    ⟨(World.cell?_of_block (h pb (by simp))).trans p1, (World.cell?_of_block (h ob (by simp))).trans o2, (World.cell?_of_block (h ob (by simp))).trans o3⟩
  have HW1 := hide hw1
  have HPB := hide hpb
  have HOB := hide hob
  have HM1 := hide hM1
  have HEND := hide hend
  have HA1 := hide hA1
  have HR := hide hR
  have HNE := hide hne
  have HCELL := hide hcell
  have HHA := hide ha
  have HHT := hide ht
  clear hw1 hpb hob hM1 hend hA1 hM hR hA hne hcell hXX hXl hP1 hO1 f1 hs1 hXc hcl ha ht
  by_cases k1 : kd = 1
  · subst k1
    by_cases hl : nn < 0 ∨ 6000 < nn
    · have HC1 := hide (begin_no d1 nn w1 hl)
      have HC2 := hide (rbegin_no c1 nn w1 hl)
      clear hl
      go_enter Tryz.func11, Tryz.ntmps11
      go_wp2_with fail
      rw [← HW1.out, ← HOB.out, ← HPB.out]
      refine HC1.out.mono ?_
      rintro e w2 ⟨rfl, hw⟩
      obtain rfl := hw.symm
      go_wp2_with fail
      refine HC2.out.mono ?_
      rintro e w2 ⟨rfl, hw⟩
      obtain rfl := hw.symm
      go_wp2_with (go_at_call 8; refine (numF_any 11 _).mono ?_; rintro e w' ⟨rfl, hw⟩; obtain rfl := hw.symm)
      go_ret
      exact HEND.out _ _ _ _ (Fr.refl _ _) (fun _ _ => rfl) HM1.out HR.out (Nat.le_add_right _ _)
    · obtain ⟨l, rfl⟩ : ∃ l : Nat, nn = l := ⟨nn.toNat, by omega⟩
      have hl6 : l ≤ 6000 := by omega
      clear hl
      have HC1 := hide (HM1.out.both.begin l hl6)
      go_enter Tryz.func11, Tryz.ntmps11
      go_wp2_with fail
      rw [← HW1.out, ← HOB.out, ← HPB.out]
      refine HC1.out.mono ?_
      rintro e w2 ⟨rfl, hL⟩
      obtain ⟨hM2, hs2, hf2⟩ := HM1.out.left hL
      obtain ⟨q1, q2, q3⟩ := HCELL.out w2 hs2
      have HC2 := hide (rbegin_yes c1 Z1 r l w2 hl6 hM2.one)
      have HM2 := hide hM2
      have HS2 := hide hs2
      have HF2 := hide hf2
      clear hL hM2 hs2 hf2 HC1
      go_wp2_with fail
      refine HC2.out.mono ?_
      rintro e w3 ⟨rfl, hr3, hf3⟩
      obtain ⟨hM3, hs3, hf3'⟩ := HM2.out.ref (G := []) hf3 (fun g hg => by simp at hg) hr3
      have HE := hide (HEND.out _ _ _ _ (HF2.out.trans hf3') (fun k hk => (hs3 k hk (HNE.out k hk)).trans (HS2.out k hk)) hM3 (HR.out.begin l) (Nat.le_add_right _ _))
      clear hM3 hs3 hf3' hr3 hf3 HC2
      go_wp2_with (go_at_call 8; refine (numF_any 0 _).mono ?_; rintro e w' ⟨rfl, hw⟩; obtain rfl := hw.symm)
      go_ret
      exact HE.out
  · have k1' : (kd == 1) = false := beq_eq_false_iff_ne.2 k1
    by_cases k2 : kd = 2
    · subst k2
      clear k1 k1'
      have hmu : DecAt sp B1 d1 t1 m1 _ x w1 := HM1.out.both.one.choose_spec
      have hx := And.intro hmu.lim (And.intro hmu.dlen hmu.tabs.ok)
      have hc1b : 16 ≤ c1 := Nat.le_trans HM1.out.bg HM1.out.k1
      have hbs := HM1.out.b1
      have HC1 := hide (HM1.out.both.feed t HA1.out.blk (fun k h3 h8 => by have := HA1.out.sp k h3 h8; omega) HA1.out.pow HHA.out)
      obtain ⟨x', pc, q, hfx⟩ : ∃ x' pc q, x.feed t.data.toList = (x', pc, q) := ⟨_, _, _, rfl⟩
      have HFX := hide hfx
      rw [hfx] at HC1
      have HX := hide hx
      clear hmu hx hfx
      go_enter Tryz.func11, Tryz.ntmps11
      go_wp2_with fail
      rw [← HW1.out, ← HOB.out, ← HPB.out]
      refine HC1.out.mono ?_
      rintro e w2 ⟨rfl, hL, hask⟩
      have hask : x'.tc.asked ≤ x.tc.asked + 32000 := hask
      have hL : Left sp B1 d1 t1 m1 B2 d2 t2 m2 (c1 :: c2 :: (Z1 ++ (Z2 ++ ([pb, ob] ++ X)))) x' y w1 w2 := hL
      obtain ⟨hM2, hs2, hf2⟩ := HM1.out.left hL
      obtain ⟨q1, q2, q3⟩ := HCELL.out w2 hs2
      have hA2 := HA1.out.fr hf2
      have HC2 := hide (rfeed_rel c1 Z1 x r t w2 hM2.one HR.out HX.out.2.2 HX.out.1 HX.out.2.1 HHA.out HHT.out hA2.ord (by have := hA2.bw; have := hA2.bg; show 11 < _; omega) (by show c1 ≠ 11; omega))
      have HM2 := hide hM2
      have HS2 := hide hs2
      have HF2 := hide hf2
      have HASK := hide hask
      clear hL hM2 hs2 hf2 HC1 hA2 hask
      go_wp2_with fail
      refine HC2.out.mono ?_
      rintro e w3 ⟨u, hu, rfl, hf3, G, hG, hr3⟩
      obtain ⟨he, hrel⟩ := HR.out.feed t.data.toList u hu
      rw [HFX.out] at he hrel
      obtain ⟨hM3, hs3, hf3'⟩ := HM2.out.ref (G := G) hf3 hG hr3
      have HE := hide (HEND.out _ _ _ _ (HF2.out.trans hf3') (fun k hk => (hs3 k hk (HNE.out k hk)).trans (HS2.out k hk)) hM3 hrel HASK.out)
      rw [he]
      clear hM3 hs3 hf3' hr3 hf3 HC2 hu he hrel hG
      go_wp2_with (go_at_call 8; refine (numF_any q _).mono ?_; rintro e w' ⟨rfl, hw⟩; obtain rfl := hw.symm)
      go_ret
      exact HE.out
    · have k2' : (kd == 2) = false := beq_eq_false_iff_ne.2 k2
      by_cases k3 : kd = 3
      · subst k3
        clear k1 k1' k2 k2'
        have hmu : DecAt sp B1 d1 t1 m1 _ x w1 := HM1.out.both.one.choose_spec
        obtain ⟨rv, room, hdb⟩ := hmu.dbF
        have HC1 := hide (end_any _ _ _ _ _ _ _ hdb)
        have HRE := hide HR.out.ending
        obtain ⟨bg, hbg⟩ : ∃ bg, bg = x.begun := ⟨_, rfl⟩
        obtain ⟨tl, htl⟩ : ∃ tl, tl = x.told := ⟨_, rfl⟩
        rw [← hbg, ← htl] at HC1 HRE
        clear hmu hdb hbg htl
        go_enter Tryz.func11, Tryz.ntmps11
        go_wp2_with fail
        rw [← HW1.out, ← HOB.out, ← HPB.out]
        refine HC1.out.mono ?_
        rintro e w2 ⟨rfl, hf2⟩
        have hM2 := HM1.out.still (G := []) hf2 (fun g hg => by simp at hg)
        have hs2 : ∀ k ∈ [pb, ob] ++ X, w2.heap[k]? = w1.heap[k]? := fun k hk => hf2.block k (HM1.out.both.off k (List.mem_cons_of_mem _ (List.mem_cons_of_mem _ (List.mem_append.2 (.inr (List.mem_append.2 (.inr hk))))))).1 (no_no _)
        obtain ⟨q1, q2, q3⟩ := HCELL.out w2 hs2
        obtain ⟨tt, kv, hrb, _⟩ := hM2.one.blk
        have hc2 := rend_any c1 r tt kv w2 hrb
        rw [HRE.out] at hc2
        have HC2 := hide hc2
        have HM2 := hide hM2
        have HS2 := hide hs2
        have HF2 := hide hf2
        clear hM2 hs2 hf2 HC1 hrb hc2
        go_wp2_with fail
        refine HC2.out.mono ?_
        rintro e w3 ⟨rfl, hf3⟩
        have hM3 := HM2.out.still (G := []) hf3 (fun g hg => by simp at hg)
        have HE := hide (HEND.out _ _ _ _ ((HF2.out.trans hf3).above) (fun k hk => (hf3.block k (HM2.out.both.off k (List.mem_cons_of_mem _ (List.mem_cons_of_mem _ (List.mem_append.2 (.inr (List.mem_append.2 (.inr hk))))))).1 (no_no _)).trans (HS2.out k hk)) hM3 HR.out (Nat.le_add_right _ _))
        clear hM3 hf3 HC2
        go_wp2_with (go_at_call 8; refine (numF_any tl _).mono ?_; rintro e w' ⟨rfl, hw⟩; obtain rfl := hw.symm)
        go_ret
        exact HE.out
      · have k3' : (kd == 3) = false := beq_eq_false_iff_ne.2 k3
        by_cases k4 : kd = 4
        · subst k4
          clear k1 k1' k2 k2' k3 k3'
          have hmu : DecAt sp B1 d1 t1 m1 _ x w1 := HM1.out.both.one.choose_spec
          obtain ⟨rv, room, hdb⟩ := hmu.dbF
          have HC1 := hide (made_any _ _ _ _ _ _ _ _ _ _ _ hdb hmu.tabs.blk)
          obtain ⟨tt, kv, hrb, _⟩ := HM1.out.one.blk
          have cm := hrb.c2
          rw [HR.out.t.made] at cm
          obtain ⟨md, hmd⟩ : ∃ md, md = x.tc.made := ⟨_, rfl⟩
          rw [← hmd] at HC1 cm
          clear hmu hdb hmd hrb
          go_enter Tryz.func11, Tryz.ntmps11
          go_wp2_with fail
          rw [← HW1.out, ← HOB.out, ← HPB.out]
          refine HC1.out.mono ?_
          rintro e w2 ⟨rfl, hw⟩
          obtain rfl := hw.symm
          have HE := hide (HEND.out _ _ _ _ (Fr.refl _ _) (fun _ _ => rfl) HM1.out HR.out (Nat.le_add_right _ _))
          go_wp2
          go_ret
          exact HE.out
        · have k4' : (kd == 4) = false := beq_eq_false_iff_ne.2 k4
          by_cases k5 : kd = 5
          · subst k5
            clear k1 k1' k2 k2' k3 k3' k4 k4'
            have HC1 := hide HM1.out.both.drop
            go_enter Tryz.func11, Tryz.ntmps11
            go_wp2_with fail
            rw [← HW1.out, ← HOB.out, ← HPB.out]
            refine HC1.out.mono ?_
            rintro e w2 ⟨rfl, hL⟩
            obtain ⟨hM2, hs2, hf2⟩ := HM1.out.left hL
            obtain ⟨q1, q2, q3⟩ := HCELL.out w2 hs2
            have HC2 := hide (rdrop_any c1 Z1 r w2 hM2.one)
            have HM2 := hide hM2
            have HS2 := hide hs2
            have HF2 := hide hf2
            clear hL hM2 hs2 hf2 HC1
            go_wp2_with fail
            refine HC2.out.mono ?_
            rintro e w3 ⟨rfl, hr3, hf3⟩
            obtain ⟨hM3, hs3, hf3'⟩ := HM2.out.ref (G := []) hf3 (fun g hg => by simp at hg) hr3
            have HE := hide (HEND.out _ _ _ _ (HF2.out.trans hf3') (fun k hk => (hs3 k hk (HNE.out k hk)).trans (HS2.out k hk)) hM3 HR.out.drop (Nat.le_add_right _ _))
            clear hM3 hs3 hf3' hr3 hf3 HC2
            go_wp2
            go_ret
            exact HE.out
          · have k5' : (kd == 5) = false := beq_eq_false_iff_ne.2 k5
            clear k1 k2 k3 k4 k5
            have HE := hide (HEND.out _ _ _ _ (Fr.refl _ _) (fun _ _ => rfl) HM1.out HR.out (Nat.le_add_right _ _))
            go_enter Tryz.func11, Tryz.ntmps11
            go_wp2
            go_ret
            rw [HW1.out] at HE
            exact HE.out
end Go.Proofs.YtjjjlilflbddoaaGreatDoor
namespace Go.Proofs.YtjjjlilflbddoaaGreatDoor
open Go.RowKit

theorem and_bit (z : Int) : bits BinOp.and IntKind.i64 z 1 = 0 ∨ bits BinOp.and IntKind.i64 z 1 = 1 := by
  have h : bits BinOp.and IntKind.i64 z 1 = IntKind.i64.wrap ((BitVec.ofInt 64 z &&& BitVec.ofInt 64 1).toNat : Int) := rfl
  have h2 : (BitVec.ofInt 64 z &&& BitVec.ofInt 64 1).toNat = (BitVec.ofInt 64 z).toNat % 2 := by
    rw [BitVec.toNat_and]
    show (BitVec.ofInt 64 z).toNat &&& 1 = _
    exact Nat.and_one_is_mod _
  rw [h, h2, IntKind.wrap_i64]
  omega
/-- A script that was handed in. -/
def ScriptF (w : World) (v : Value) (n : Nat) : Prop := ∃ a cap, v = .slice a n cap ∧ ∀ j, j < n → ∃ (b off : Nat) (kd wd nn : Int) (t : ByteArray), a = some ⟨b, off, none⟩ ∧ b < w.heap.size ∧ t.size < 2 ^ 62 ∧
  w.cell? ⟨b, off + j * 4, none⟩ = some (.int .i64 kd) ∧ w.cell? ⟨b, off + j * 4 + 1, none⟩ = some (.int .i64 wd) ∧ w.cell? ⟨b, off + j * 4 + 2, none⟩ = some (.int .i64 nn) ∧ w.cell? ⟨b, off + j * 4 + 3, none⟩ = some (.string t)

/-- Where the law stands ahead of the script's part j; g: the list of the pairs. -/
structure FAt (sp : Nat → Addr) (B g : Nat) (w : World) (j : Nat) (wr : World) : Prop where
  ex : ∃ Z1 Z2 x y r s, Mem sp B B (B + 2) (B + 1) B (B + 3) (B + 3 + 2) (B + 3 + 1) (B + 3) (B + 6) (B + 7) Z1 Z2 [g] x y r s wr ∧ Rel x r ∧ Rel y s ∧ x.tc.asked ≤ 32000 * j ∧ y.tc.asked ≤ 32000 * j
  row : ∃ cc ty, wr.heap[g]? = some (.cells cc ty (0, 0)) ∧ cc[0]? = some (.pointer (some ⟨B + 2, 0, none⟩)) ∧ cc[1]? = some (.pointer (some ⟨B + 6, 0, none⟩)) ∧ cc[2]? = some (.pointer (some ⟨B + 3 + 2, 0, none⟩)) ∧ cc[3]? = some (.pointer (some ⟨B + 7, 0, none⟩))
  amid : Amid sp B wr
  fr : Fr No w wr
  gn : g ≠ B + 6 ∧ g ≠ B + 7
theorem FAt.cells {sp : Nat → Addr} {B g : Nat} {w : World} {j : Nat} {wr : World} (h : FAt sp B g w j wr) : wr.cell? ⟨g, 0, none⟩ = some (.pointer (some ⟨B + 2, 0, none⟩)) ∧ wr.cell? ⟨g, 1, none⟩ = some (.pointer (some ⟨B + 6, 0, none⟩)) ∧ wr.cell? ⟨g, 2, none⟩ = some (.pointer (some ⟨B + 3 + 2, 0, none⟩)) ∧ wr.cell? ⟨g, 3, none⟩ = some (.pointer (some ⟨B + 7, 0, none⟩)) := by
  obtain ⟨cc, ty, hh, a, b, c, d⟩ := h.row
  rw [cell_of hh, cell_of hh, cell_of hh, cell_of hh]
  exact ⟨a, b, c, d⟩
/-- One call behind which all stands as it should; the new block pb stays. -/
theorem FAt.step (sp : Nat → Addr) (B g pb : Nat) (w : World) (j : Nat) (wr wa : World) (h : FAt sp B g w j wr) (f0 : Fr No wr wa) (hpb : wr.heap.size ≤ pb ∧ pb < wa.heap.size) (hw : B = w.heap.size) (hj : j < 4398046511104) (kd wd nn : Int) (t : ByteArray) (ht : t.size < 2 ^ 62) (which : Bool) :
    Calls Tryz.prog 11 #[.agg #[.pointer (some ⟨if which then B + 3 + 2 else B + 2, 0, none⟩), .pointer (some ⟨if which then B + 7 else B + 6, 0, none⟩)], .agg #[.int .i64 kd, .int .i64 wd, .int .i64 nn, .string t]] wa fun e w' => e = .returned (.bool true) ∧ FAt sp B g w (j + 1) w' ∧ w'.heap[pb]? = wa.heap[pb]? := by
  obtain ⟨Z1, Z2, x, y, r, s, hM0, hR1, hR2, h1, h2⟩ := h.ex
  obtain ⟨g1, g2⟩ := h.gn
  have hc1 := (hM0.both.off (B + 6) (by simp)).1
  have hc2 := (hM0.both.off (B + 7) (by simp)).1
  have hM := hM0.still (G := [pb]) f0 (fun q hq => by simp at hq; omega)
  have hA := h.amid.fr f0.above
  cases which with
  | false =>
    refine (step_any sp B B (B + 2) (B + 1) B (B + 3) (B + 3 + 2) (B + 3 + 1) (B + 3) (B + 6) (B + 7) Z1 Z2 ([pb] ++ [g]) x y r s kd wd nn t wa hM hR1 hA (by omega) ht (by simp; omega)).mono ?_
    rintro e w' ⟨rfl, f, hs, Z1', x', r', hM', hR', ha⟩
    obtain ⟨cc, ty, hh, hc⟩ := h.row
    exact ⟨rfl, ⟨⟨Z1', Z2, x', y, r', s, hM'.less (fun k hk => by simp at hk; simp [hk]), hR', hR2, by omega, by omega⟩, ⟨cc, ty, (hs g (by simp)).trans (f0.at hh (no_no _)), hc⟩, hA.fr f, (h.fr.trans f0).past f (fun k hk e => by have e' : B ≤ k := e; omega), h.gn⟩, hs pb (by simp)⟩
  | true =>
    refine (step_any sp B (B + 3) (B + 3 + 2) (B + 3 + 1) (B + 3) B (B + 2) (B + 1) B (B + 7) (B + 6) Z2 Z1 ([pb] ++ [g]) y x s r kd wd nn t wa hM.swap hR2 hA (by omega) ht (by simp; omega)).mono ?_
    rintro e w' ⟨rfl, f, hs, Z1', x', r', hM', hR', ha⟩
    obtain ⟨cc, ty, hh, hc⟩ := h.row
    exact ⟨rfl, ⟨⟨Z1, Z1', x, x', r, r', (hM'.less (fun k hk => by simp at hk; simp [hk])).swap, hR1, hR', by omega, by omega⟩, ⟨cc, ty, (hs g (by simp)).trans (f0.at hh (no_no _)), hc⟩, hA.fr f, (h.fr.trans f0).past f (fun k hk e => by have e' : B ≤ k := e; omega), h.gn⟩, hs pb (by simp)⟩
theorem FAt.still {sp : Nat → Addr} {B g : Nat} {w : World} {j : Nat} {wr w' : World} (h : FAt sp B g w j wr) (f : Fr No wr w') : FAt sp B g w j w' := by
  obtain ⟨Z1, Z2, x, y, r, s, hM, hR⟩ := h.ex
  obtain ⟨cc, ty, hh, hc⟩ := h.row
  exact ⟨⟨Z1, Z2, x, y, r, s, hM.still (G := []) f (fun g hg => by simp at hg), hR⟩, ⟨cc, ty, f.at hh (no_no _), hc⟩, h.amid.fr f.above, h.fr.trans f, h.gn⟩
/-- All of them are new. -/
theorem FAt.start (sp : Nat → Addr) (c1 c2 g : Nat) (w w1 w2 w3 w4 w5 : World) (h1 : DecAt sp w.heap.size (w.heap.size + 2) (w.heap.size + 1) w.heap.size [] (Gz.Dec.new c1) w1) (s1 : w1.heap.size = w.heap.size + 3) (f1 : Fr No w w1)
    (h2 : DecAt sp w1.heap.size (w1.heap.size + 2) (w1.heap.size + 1) w1.heap.size [] (Gz.Dec.new c2) w2) (s2 : w2.heap.size = w1.heap.size + 3) (f2 : Fr No w1 w2) (h3 : RDec w3 w2.heap.size [] (Rf.Dec.new c1)) (s3 : w3.heap.size = w2.heap.size + 1) (f3 : Fr No w2 w3)
    (h4 : RDec w4 w3.heap.size [] (Rf.Dec.new c2)) (s4 : w4.heap.size = w3.heap.size + 1) (f4 : Fr No w3 w4) (f5 : Fr No w4 w5) (hg : w4.heap.size ≤ g ∧ g < w5.heap.size) (hE : Env sp w) (hB : Blk sp w) (hP : Pow w) (hO : OrdAt w)
    (hrow : ∃ cc ty, w5.heap[g]? = some (.cells cc ty (0, 0)) ∧ cc[0]? = some (.pointer (some ⟨w.heap.size + 2, 0, none⟩)) ∧ cc[1]? = some (.pointer (some ⟨w.heap.size + 6, 0, none⟩)) ∧ cc[2]? = some (.pointer (some ⟨w.heap.size + 3 + 2, 0, none⟩)) ∧ cc[3]? = some (.pointer (some ⟨w.heap.size + 7, 0, none⟩))) :
    FAt sp w.heap.size g w 0 w5 := by
  have e2 : w2.heap.size = w.heap.size + 6 := by omega
  have e3 : w3.heap.size = w.heap.size + 7 := by omega
  rw [s1] at h2
  rw [e2] at h3
  rw [e3] at h4
  have hz := hE.size
  obtain ⟨h1', e1⟩ := h1.beside f2 (fun _ _ => no_no _) (fun _ _ => no_no _) (fun _ _ => no_no _)
  have hb2 : Both sp w.heap.size (w.heap.size + 2) (w.heap.size + 1) w.heap.size (w.heap.size + 3) (w.heap.size + 3 + 2) (w.heap.size + 3 + 1) (w.heap.size + 3) [] (Gz.Dec.new c1) (Gz.Dec.new c2) w2 := by
    refine ⟨⟨_, h1'⟩, ⟨_, h2⟩, fun k a b => ?_, fun k hk => by simp at hk⟩
    have := (h1.mu ((e1 k).1 a)).2.2.1
    have := (h2.mu b).2.1
    omega
  have hb4 := (hb2.still (G := [w.heap.size + 6]) f3 (fun g hg => by simp at hg; omega)).still (G := [w.heap.size + 7]) f4 (fun g hg => by simp at hg; omega)
  have hb5 := hb4.still (G := [g]) f5 (fun q hq => by simp at hq; omega)
  have hf5 : Fr No w w5 := (((f1.trans f2).trans f3).trans f4).trans f5
  have hl6 : w.heap.size + 6 < w4.heap.size := by omega
  refine ⟨⟨[], [], _, _, _, _, ⟨hb5.reZ (fun k hk => ?_), h3.same (Nat.le_trans f4.size f5.size) (fun k hk => ?_), h4.same f5.size (fun k hk => ?_), by omega, by simp, by simp, hz, Nat.le_refl _, by omega, by omega, by omega⟩, Rel.new, Rel.new, Nat.zero_le _, Nat.zero_le _⟩, hrow, ⟨hE.fr hf5 (fun _ _ => no_no _), hB.fr hf5, hP.fr hf5 (by omega) (no_no _), hO.fr hf5 (no_no _) (by omega), fun k h3 h8 => ?_, hz, hf5.size⟩, hf5, by omega, by omega⟩
  · simp only [List.nil_append, List.mem_cons, List.mem_append, List.not_mem_nil, or_false] at hk ⊢
    rcases hk with h | h | h <;> simp [h]
  · simp only [List.mem_cons, List.not_mem_nil, or_false] at hk
    subst hk
    exact (f4.trans f5).block _ (by omega) (no_no _)
  · simp only [List.mem_cons, List.not_mem_nil, or_false] at hk
    subst hk
    exact f5.block _ (by omega) (no_no _)
  · obtain ⟨c, t, hc⟩ := hB k h3 h8
    exact lt_of hc
theorem rinfoP : (Tryz.prog.info? 36).map (fun i => (i.zero, i.size, i.bytes)) = some (some (.agg #[.pointer none, .pointer none]), 2, 16) := by kernel_rfl
end Go.Proofs.YtjjjlilflbddoaaGreatDoor
namespace Go.Proofs.YtjjjlilflbddoaaGreatDoor
open Go.RowKit

set_option maxRecDepth 100000 in
set_option maxHeartbeats 8000000 in
theorem feedsLaw_any (sp : Nat → Addr) (a1 a2 : Int) (v : Value) (n : Nat) (w : World) (hv : ScriptF w v n) (hn : n ≤ 4398046511104) (hE : Env sp w) (hB : Blk sp w) (hP : Pow w) (hO : OrdAt w) :
    Calls Tryz.prog 4 #[.int .i64 a1, .int .i64 a2, v] w fun e w' => e = .returned (.bool true) ∧ Fr No w w' := by
  obtain ⟨a, cap, rfl, hc⟩ := hv
  obtain ⟨i0, hi, hz0, hz1, hz2⟩ := info_parts rinfoP
  have HC := hide hc
  have HE := hide hE
  have HB := hide hB
  have HP := hide hP
  have HO := hide hO
  clear hc hE hB hP hO
  go_enter Tryz.func4, Tryz.ntmps4
  go_wp2_with fail
  refine (newD_any sp a1 w HE.out).mono ?_
  rintro e w1 ⟨rfl, hD1, hf1, hs1⟩
  have HD1 := hide hD1
  have HF1 := hide hf1
  have HS1 := hide hs1
  clear hD1 hf1 hs1
  go_wp2_with fail
  refine (newD_any sp a2 w1 (HE.out.fr HF1.out (fun _ _ => no_no _))).mono ?_
  rintro e w2 ⟨rfl, hD2, hf2, hs2⟩
  have HD2 := hide hD2
  have HF2 := hide hf2
  have HS2 := hide hs2
  clear hD2 hf2 hs2
  go_wp2_with fail
  refine (rnew_any a1 w2).mono ?_
  rintro e w3 ⟨rfl, hD3, hf3, hs3⟩
  have HD3 := hide hD3
  have HF3 := hide hf3
  have HS3 := hide hs3
  clear hD3 hf3 hs3
  go_wp2_with fail
  refine (rnew_any a2 w3).mono ?_
  rintro e w4 ⟨rfl, hD4, hf4, hs4⟩
  have HD4 := hide hD4
  have HF4 := hide hf4
  have HS4 := hide hs4
  clear hD4 hf4 hs4
  obtain ⟨B, hB0⟩ : ∃ B, B = w.heap.size := ⟨_, rfl⟩
  have q1 : w1.heap.size = B + 3 := by rw [hB0]; exact HS1.out
  have q2 : w2.heap.size = B + 6 := by have := HS2.out; omega
  have q3 : w3.heap.size = B + 7 := by have := HS3.out; omega
  have hbw4 : w.heap.size ≤ w4.heap.size := by have := HS4.out; omega
  rw [q1, q2, q3, ← hB0]
  have HB0 := hide hB0
  have HQ3 := hide q3
  clear hB0 q1 q2 q3
  go_wp2_with (at_builtin; refine wpList_append_lies _ rfl (.tmp 31) (.tmp 38) 30 rfl w.heap.size 36 i0 (.agg #[.pointer none, .pointer none]) 2 16 Tryz.underlying30 hi hz0 hz1 hz2 rfl (by decide) (.slice none 0 0) 0 [] rfl ?hown ⟨w4.heap.size, 0, none⟩ 2 2 [.pointer (some ⟨B + 2, 0, none⟩), .pointer (some ⟨B + 6, 0, none⟩), .pointer (some ⟨B + 3 + 2, 0, none⟩), .pointer (some ⟨B + 7, 0, none⟩)] rfl rfl ?hnews ?h1 (by decide) ?h63 ?hb ?hbase _ rfl ?hK)
  case hown => exact ⟨rfl, Or.inl ⟨rfl, rfl⟩⟩
  case hnews => first | exact (fun j u h => h) | (intro j u hj; match j, hj with | 0, hj => simp at hj; subst hj; exact cell_of (alloc_at w4 _) 0 | 1, hj => simp at hj; subst hj; exact cell_of (alloc_at w4 _) 1 | 2, hj => simp at hj; subst hj; exact cell_of (alloc_at w4 _) 2 | 3, hj => simp at hj; subst hj; exact cell_of (alloc_at w4 _) 3)
  case h1 => intro u hu; simp at hu; rcases hu with rfl | rfl | rfl | rfl <;> rfl
  case h63 => unfold maxLen; omega
  case hb => omega
  case hbase => first | omega | (simp; omega)
  case hK =>
    intro g cap5 w5 hown5 hgrow5 hat5 hlt5
    have hf5 : Fr No w4 w5 := ((Fr.refl _ _).alloc _).grown hgrow5 (fun k h => by cases h)
    have hg5 : w4.heap.size ≤ g := by
      rcases hat5 with h | h
      · cases h
      · rw [h]; simp
    have hrow : ∃ cc ty, w5.heap[g]? = some (.cells cc ty (0, 0)) ∧ cc[0]? = some (.pointer (some ⟨w.heap.size + 2, 0, none⟩)) ∧ cc[1]? = some (.pointer (some ⟨w.heap.size + 6, 0, none⟩)) ∧ cc[2]? = some (.pointer (some ⟨w.heap.size + 3 + 2, 0, none⟩)) ∧ cc[3]? = some (.pointer (some ⟨w.heap.size + 7, 0, none⟩)) := by
      rw [← HB0.out]
      rcases hown5.2 with ⟨h, _⟩ | ⟨g', cp, cur, e, _, hh, _, _, _, ht⟩
      · cases h
      · injection e with e
        injection e with e
        injection e with e
        subst e
        have hcc : ∀ q, q < 4 → cur[q]? = ([] ++ [.pointer (some ⟨B + 2, 0, none⟩), .pointer (some ⟨B + 6, 0, none⟩), .pointer (some ⟨B + 3 + 2, 0, none⟩), .pointer (some ⟨B + 7, 0, none⟩)] : List Value)[q]? := fun q hq => by
          rw [← ht, List.nil_append, List.getElem?_take_of_lt (by omega), Array.getElem?_toList]
        exact ⟨cur, _, hh, hcc 0 (by omega), hcc 1 (by omega), hcc 2 (by omega), hcc 3 (by omega)⟩
    have hst := FAt.start sp _ _ g w w1 w2 w3 w4 w5 HD1.out HS1.out HF1.out HD2.out HS2.out HF2.out HD3.out HS3.out HF3.out HD4.out HS4.out HF4.out hf5 ⟨hg5, hlt5⟩ HE.out HB.out HP.out HO.out hrow
    rw [← HB0.out] at hst
    have HST := hide hst
    clear hst hown5 hgrow5 hat5 hrow hf5 HD1 HD2 HD3 HD4 HF1 HF2 HF3 HF4 HS1 HS2 HS3 HS4 HE HB HP HO
    go_wp2_with fail
    go_loopw [12] (fun iv wr => ∃ j : Nat, j ≤ n ∧ iv = .int .i64 (j : Nat) ∧ Hid (FAt sp B g w j wr)) (fun iv _ => n - (intOf iv).toNat)
    case atStart => exact ⟨0, Nat.zero_le _, rfl, HST.out⟩
    case round =>
      obtain ⟨j, hj, rfl, HR⟩ := hrel
      by_cases hjn : j < n
      · obtain ⟨b, off, kd, wd, nn, t, rfl, hbl, hts, q0, q1, q2, q3⟩ := HC.out j hjn
        have HQ0 := hide (And.intro q0 (And.intro q1 (And.intro q2 q3)))
        have q0 := (HR.out.fr.cell (p := ⟨b, off + j * 4, none⟩) hbl (no_no _)).trans q0
        have q1 := (HR.out.fr.cell (p := ⟨b, off + j * 4 + 1, none⟩) hbl (no_no _)).trans q1
        have q2 := (HR.out.fr.cell (p := ⟨b, off + j * 4 + 2, none⟩) hbl (no_no _)).trans q2
        have q3 := (HR.out.fr.cell (p := ⟨b, off + j * 4 + 3, none⟩) hbl (no_no _)).trans q3
        have hblr : b < wr.heap.size := Nat.lt_of_lt_of_le hbl HR.out.fr.size
        obtain ⟨z0, z1, z2, z3⟩ := HR.out.cells
        rcases and_bit wd with hw | hw
        · go_wp2_with fail
          have hfa : Fr No wr (wr.alloc (.cells #[.pointer (some ⟨B + 2, 0, none⟩), .pointer (some ⟨B + 6, 0, none⟩)] 36)) := (Fr.refl _ _).alloc _
          obtain ⟨wa, hwa⟩ : ∃ wa, wa = wr.alloc (.cells #[.pointer (some ⟨B + 2, 0, none⟩), .pointer (some ⟨B + 6, 0, none⟩)] 36) := ⟨_, rfl⟩
          have y0 : wa.cell? ⟨wr.heap.size, 0, none⟩ = some (.pointer (some ⟨B + 2, 0, none⟩)) := by rw [hwa, cell_of (alloc_at wr _)]; rfl
          have y1 : wa.cell? ⟨wr.heap.size, 1, none⟩ = some (.pointer (some ⟨B + 6, 0, none⟩)) := by rw [hwa, cell_of (alloc_at wr _)]; rfl
          rw [← hwa] at hfa ⊢
          have r0 := (hfa.cell (p := ⟨b, off + j * 4, none⟩) hblr (no_no _)).trans q0
          have r1 := (hfa.cell (p := ⟨b, off + j * 4 + 1, none⟩) hblr (no_no _)).trans q1
          have r2 := (hfa.cell (p := ⟨b, off + j * 4 + 2, none⟩) hblr (no_no _)).trans q2
          have r3 := (hfa.cell (p := ⟨b, off + j * 4 + 3, none⟩) hblr (no_no _)).trans q3
          have hpw : wr.heap.size < wa.heap.size := by rw [hwa]; simp
          have hcl := FAt.step sp B g wr.heap.size w j wr (World.drew wa) HR.out hfa.drew ⟨Nat.le_refl _, hpw⟩ HB0.out (by omega) kd wd nn t hts false
          have hkeep : ∀ w' : World, w'.heap[wr.heap.size]? = wa.heap[wr.heap.size]? → w'.cell? ⟨wr.heap.size, 0, none⟩ = some (.pointer (some ⟨B + 2, 0, none⟩)) ∧ w'.cell? ⟨wr.heap.size, 1, none⟩ = some (.pointer (some ⟨B + 6, 0, none⟩)) := fun w' h => ⟨(World.cell?_of_block h).trans y0, (World.cell?_of_block h).trans y1⟩
          have HKEEP := hide hkeep
          have HCL := hide hcl
          have HFA := hide hfa
          have HWA := hide hwa
          obtain ⟨pb, hpb⟩ : ∃ pb, pb = wr.heap.size := ⟨_, rfl⟩
          rw [← hpb] at y0 y1 HKEEP HCL ⊢
          clear hkeep hpw hcl hfa hwa q0 q1 q2 q3 z0 z1 z2 z3 hw hpb
          refine wp_region_held (S := fun W => (W.cell? ⟨pb, 0, none⟩ = some (.pointer (some ⟨B + 2, 0, none⟩)) ∧ W.cell? ⟨pb, 1, none⟩ = some (.pointer (some ⟨B + 6, 0, none⟩))) ∧ W.cell? ⟨b, off + j * 4, none⟩ = some (.int .i64 kd) ∧ W.cell? ⟨b, off + j * 4 + 1, none⟩ = some (.int .i64 wd) ∧ W.cell? ⟨b, off + j * 4 + 2, none⟩ = some (.int .i64 nn) ∧ W.cell? ⟨b, off + j * 4 + 3, none⟩ = some (.string t)) (by kernel_rfl) ?_
          change wpAnyH _ _ _ _ _ _ _ _ (World.drew _)
          have hS0 : ((World.drew wa).cell? ⟨pb, 0, none⟩ = some (.pointer (some ⟨B + 2, 0, none⟩)) ∧ (World.drew wa).cell? ⟨pb, 1, none⟩ = some (.pointer (some ⟨B + 6, 0, none⟩))) ∧ (World.drew wa).cell? ⟨b, off + j * 4, none⟩ = some (.int .i64 kd) ∧ (World.drew wa).cell? ⟨b, off + j * 4 + 1, none⟩ = some (.int .i64 wd) ∧ (World.drew wa).cell? ⟨b, off + j * 4 + 2, none⟩ = some (.int .i64 nn) ∧ (World.drew wa).cell? ⟨b, off + j * 4 + 3, none⟩ = some (.string t) := ⟨⟨y0, y1⟩, r0, r1, r2, r3⟩
          refine wpAnyH_take (i := 0) (v := .agg #[.pointer (some ⟨B + 2, 0, none⟩), .pointer (some ⟨B + 6, 0, none⟩)]) rfl (by kernel_rfl) (by kernel_rfl) (by kernel_rfl) (fun _ _ _ h => h) (Or.inl ⟨by rfl, by intro w h; obtain ⟨⟨h1, h2⟩, _⟩ := h; go_simp⟩) hS0 ?_
          refine wpAnyH_take (i := 1) (v := ?_) rfl (by kernel_rfl) (by kernel_rfl) (by kernel_rfl) (fun _ _ _ h => h) (Or.inl ⟨by rfl, by intro w _; go_simp; with_reducible rfl⟩) hS0 ?_
          refine wpAnyH_take (i := 2) (v := ?_) rfl (by kernel_rfl) (by kernel_rfl) (by kernel_rfl) (fun _ _ _ h => h) (Or.inl ⟨by rfl, by intro w _; go_simp; with_reducible rfl⟩) hS0 ?_
          refine wpAnyH_take (i := 3) (v := .pointer (some ⟨b, off + j * 4, none⟩)) rfl (by kernel_rfl) (by kernel_rfl) (by kernel_rfl) (fun _ _ _ h => h) (Or.inl ⟨by rfl, by intro w _; go_simp⟩) hS0 ?_
          refine wpAnyH_take (i := 4) (v := .agg #[.int .i64 kd, .int .i64 wd, .int .i64 nn, .string t]) rfl (by kernel_rfl) (by kernel_rfl) (by kernel_rfl) (fun _ _ _ h => h) (Or.inl ⟨by rfl, by intro w h; obtain ⟨_, h1, h2, h3, h4⟩ := h; go_simp⟩) hS0 ?_
          refine wpAnyH_one (i := 5) (by kernel_rfl) rfl rfl (fun K'' hK' => ?_)
          go_simp
          refine HCL.out.mono ?_
          rintro e w6 ⟨rfl, hF6, hp6⟩
          have h6 := HKEEP.out w6 hp6
          have hS6 : (w6.cell? ⟨pb, 0, none⟩ = some (.pointer (some ⟨B + 2, 0, none⟩)) ∧ w6.cell? ⟨pb, 1, none⟩ = some (.pointer (some ⟨B + 6, 0, none⟩))) ∧ w6.cell? ⟨b, off + j * 4, none⟩ = some (.int .i64 kd) ∧ w6.cell? ⟨b, off + j * 4 + 1, none⟩ = some (.int .i64 wd) ∧ w6.cell? ⟨b, off + j * 4 + 2, none⟩ = some (.int .i64 nn) ∧ w6.cell? ⟨b, off + j * 4 + 3, none⟩ = some (.string t) :=
            ⟨h6, (hF6.fr.cell (p := ⟨b, off + j * 4, none⟩) hbl (no_no _)).trans HQ0.out.1, (hF6.fr.cell (p := ⟨b, off + j * 4 + 1, none⟩) hbl (no_no _)).trans HQ0.out.2.1, (hF6.fr.cell (p := ⟨b, off + j * 4 + 2, none⟩) hbl (no_no _)).trans HQ0.out.2.2.1, (hF6.fr.cell (p := ⟨b, off + j * 4 + 3, none⟩) hbl (no_no _)).trans HQ0.out.2.2.2⟩
          refine hK' _ _ hS6 ?_
          clear hK' K''
          refine wpAnyH_take (i := 6) (v := ?_) rfl (by kernel_rfl) (by kernel_rfl) (by kernel_rfl) (fun _ _ _ h => h) (Or.inl ⟨by rfl, by intro w _; go_simp; with_reducible rfl⟩) hS6 ?_
          refine wpAnyH_done (by kernel_rfl) ?_ _
          simp only [List.getElem_toArray, List.getElem_cons_succ, List.getElem_cons_zero]
          go_frame
          have HF6 := hide hF6
          clear hS6 hS0 h6 hp6 hF6 HCL HKEEP
          go_wp2_with fail
          refine ⟨⟨j + 1, by omega, by go_num, HF6.out⟩, by simp [intOf]; omega⟩
        · go_wp2_with fail
          have hfa : Fr No wr (wr.alloc (.cells #[.pointer (some ⟨B + 3 + 2, 0, none⟩), .pointer (some ⟨B + 7, 0, none⟩)] 36)) := (Fr.refl _ _).alloc _
          obtain ⟨wa, hwa⟩ : ∃ wa, wa = wr.alloc (.cells #[.pointer (some ⟨B + 3 + 2, 0, none⟩), .pointer (some ⟨B + 7, 0, none⟩)] 36) := ⟨_, rfl⟩
          have y0 : wa.cell? ⟨wr.heap.size, 0, none⟩ = some (.pointer (some ⟨B + 3 + 2, 0, none⟩)) := by rw [hwa, cell_of (alloc_at wr _)]; rfl
          have y1 : wa.cell? ⟨wr.heap.size, 1, none⟩ = some (.pointer (some ⟨B + 7, 0, none⟩)) := by rw [hwa, cell_of (alloc_at wr _)]; rfl
          rw [← hwa] at hfa ⊢
          have r0 := (hfa.cell (p := ⟨b, off + j * 4, none⟩) hblr (no_no _)).trans q0
          have r1 := (hfa.cell (p := ⟨b, off + j * 4 + 1, none⟩) hblr (no_no _)).trans q1
          have r2 := (hfa.cell (p := ⟨b, off + j * 4 + 2, none⟩) hblr (no_no _)).trans q2
          have r3 := (hfa.cell (p := ⟨b, off + j * 4 + 3, none⟩) hblr (no_no _)).trans q3
          have hpw : wr.heap.size < wa.heap.size := by rw [hwa]; simp
          have hcl := FAt.step sp B g wr.heap.size w j wr (World.drew wa) HR.out hfa.drew ⟨Nat.le_refl _, hpw⟩ HB0.out (by omega) kd wd nn t hts true
          have hkeep : ∀ w' : World, w'.heap[wr.heap.size]? = wa.heap[wr.heap.size]? → w'.cell? ⟨wr.heap.size, 0, none⟩ = some (.pointer (some ⟨B + 3 + 2, 0, none⟩)) ∧ w'.cell? ⟨wr.heap.size, 1, none⟩ = some (.pointer (some ⟨B + 7, 0, none⟩)) := fun w' h => ⟨(World.cell?_of_block h).trans y0, (World.cell?_of_block h).trans y1⟩
          have HKEEP := hide hkeep
          have HCL := hide hcl
          have HFA := hide hfa
          have HWA := hide hwa
          obtain ⟨pb, hpb⟩ : ∃ pb, pb = wr.heap.size := ⟨_, rfl⟩
          rw [← hpb] at y0 y1 HKEEP HCL ⊢
          clear hkeep hpw hcl hfa hwa q0 q1 q2 q3 z0 z1 z2 z3 hw hpb
          refine wp_region_held (S := fun W => (W.cell? ⟨pb, 0, none⟩ = some (.pointer (some ⟨B + 3 + 2, 0, none⟩)) ∧ W.cell? ⟨pb, 1, none⟩ = some (.pointer (some ⟨B + 7, 0, none⟩))) ∧ W.cell? ⟨b, off + j * 4, none⟩ = some (.int .i64 kd) ∧ W.cell? ⟨b, off + j * 4 + 1, none⟩ = some (.int .i64 wd) ∧ W.cell? ⟨b, off + j * 4 + 2, none⟩ = some (.int .i64 nn) ∧ W.cell? ⟨b, off + j * 4 + 3, none⟩ = some (.string t)) (by kernel_rfl) ?_
          change wpAnyH _ _ _ _ _ _ _ _ (World.drew _)
          have hS0 : ((World.drew wa).cell? ⟨pb, 0, none⟩ = some (.pointer (some ⟨B + 3 + 2, 0, none⟩)) ∧ (World.drew wa).cell? ⟨pb, 1, none⟩ = some (.pointer (some ⟨B + 7, 0, none⟩))) ∧ (World.drew wa).cell? ⟨b, off + j * 4, none⟩ = some (.int .i64 kd) ∧ (World.drew wa).cell? ⟨b, off + j * 4 + 1, none⟩ = some (.int .i64 wd) ∧ (World.drew wa).cell? ⟨b, off + j * 4 + 2, none⟩ = some (.int .i64 nn) ∧ (World.drew wa).cell? ⟨b, off + j * 4 + 3, none⟩ = some (.string t) := ⟨⟨y0, y1⟩, r0, r1, r2, r3⟩
          refine wpAnyH_take (i := 0) (v := .agg #[.pointer (some ⟨B + 3 + 2, 0, none⟩), .pointer (some ⟨B + 7, 0, none⟩)]) rfl (by kernel_rfl) (by kernel_rfl) (by kernel_rfl) (fun _ _ _ h => h) (Or.inl ⟨by rfl, by intro w h; obtain ⟨⟨h1, h2⟩, _⟩ := h; go_simp⟩) hS0 ?_
          refine wpAnyH_take (i := 1) (v := ?_) rfl (by kernel_rfl) (by kernel_rfl) (by kernel_rfl) (fun _ _ _ h => h) (Or.inl ⟨by rfl, by intro w _; go_simp; with_reducible rfl⟩) hS0 ?_
          refine wpAnyH_take (i := 2) (v := ?_) rfl (by kernel_rfl) (by kernel_rfl) (by kernel_rfl) (fun _ _ _ h => h) (Or.inl ⟨by rfl, by intro w _; go_simp; with_reducible rfl⟩) hS0 ?_
          refine wpAnyH_take (i := 3) (v := .pointer (some ⟨b, off + j * 4, none⟩)) rfl (by kernel_rfl) (by kernel_rfl) (by kernel_rfl) (fun _ _ _ h => h) (Or.inl ⟨by rfl, by intro w _; go_simp⟩) hS0 ?_
          refine wpAnyH_take (i := 4) (v := .agg #[.int .i64 kd, .int .i64 wd, .int .i64 nn, .string t]) rfl (by kernel_rfl) (by kernel_rfl) (by kernel_rfl) (fun _ _ _ h => h) (Or.inl ⟨by rfl, by intro w h; obtain ⟨_, h1, h2, h3, h4⟩ := h; go_simp⟩) hS0 ?_
          refine wpAnyH_one (i := 5) (by kernel_rfl) rfl rfl (fun K'' hK' => ?_)
          go_simp
          refine HCL.out.mono ?_
          rintro e w6 ⟨rfl, hF6, hp6⟩
          have h6 := HKEEP.out w6 hp6
          have hS6 : (w6.cell? ⟨pb, 0, none⟩ = some (.pointer (some ⟨B + 3 + 2, 0, none⟩)) ∧ w6.cell? ⟨pb, 1, none⟩ = some (.pointer (some ⟨B + 7, 0, none⟩))) ∧ w6.cell? ⟨b, off + j * 4, none⟩ = some (.int .i64 kd) ∧ w6.cell? ⟨b, off + j * 4 + 1, none⟩ = some (.int .i64 wd) ∧ w6.cell? ⟨b, off + j * 4 + 2, none⟩ = some (.int .i64 nn) ∧ w6.cell? ⟨b, off + j * 4 + 3, none⟩ = some (.string t) :=
            ⟨h6, (hF6.fr.cell (p := ⟨b, off + j * 4, none⟩) hbl (no_no _)).trans HQ0.out.1, (hF6.fr.cell (p := ⟨b, off + j * 4 + 1, none⟩) hbl (no_no _)).trans HQ0.out.2.1, (hF6.fr.cell (p := ⟨b, off + j * 4 + 2, none⟩) hbl (no_no _)).trans HQ0.out.2.2.1, (hF6.fr.cell (p := ⟨b, off + j * 4 + 3, none⟩) hbl (no_no _)).trans HQ0.out.2.2.2⟩
          refine hK' _ _ hS6 ?_
          clear hK' K''
          refine wpAnyH_take (i := 6) (v := ?_) rfl (by kernel_rfl) (by kernel_rfl) (by kernel_rfl) (fun _ _ _ h => h) (Or.inl ⟨by rfl, by intro w _; go_simp; with_reducible rfl⟩) hS6 ?_
          refine wpAnyH_done (by kernel_rfl) ?_ _
          simp only [List.getElem_toArray, List.getElem_cons_succ, List.getElem_cons_zero]
          go_frame
          have HF6 := hide hF6
          clear hS6 hS0 h6 hp6 hF6 HCL HKEEP
          go_wp2_with fail
          refine ⟨⟨j + 1, by omega, by go_num, HF6.out⟩, by simp [intOf]; omega⟩
      · obtain ⟨Z1, Z2, x, y, r, s, hM, hR1, hR2, _, _⟩ := HR.out.ex
        obtain ⟨K1, hx⟩ := hM.both.one
        obtain ⟨K2, hy⟩ := hM.both.two
        obtain ⟨rv1, room1, hdb1⟩ := hx.dbF
        obtain ⟨rv2, room2, hdb2⟩ := hy.dbF
        have HC1 := hide (made_any _ _ _ _ _ _ _ _ _ _ _ hdb1 hx.tabs.blk)
        have HC2 := hide (made_any _ _ _ _ _ _ _ _ _ _ _ hdb2 hy.tabs.blk)
        obtain ⟨tt1, kv1, hrb1, _⟩ := hM.one.blk
        obtain ⟨tt2, kv2, hrb2, _⟩ := hM.two.blk
        have cm1 := hrb1.c2
        have cm2 := hrb2.c2
        rw [hR1.t.made] at cm1
        rw [hR2.t.made] at cm2
        obtain ⟨md1, hmd1⟩ : ∃ md, md = x.tc.made := ⟨_, rfl⟩
        obtain ⟨md2, hmd2⟩ : ∃ md, md = y.tc.made := ⟨_, rfl⟩
        rw [← hmd1] at HC1 cm1
        rw [← hmd2] at HC2 cm2
        have HFR := hide HR.out.fr
        clear hM hR1 hR2 hx hy hdb1 hdb2 hrb1 hrb2 hmd1 hmd2
        go_wp2_with fail
        refine HC1.out.mono ?_
        rintro e w6 ⟨rfl, hw⟩
        obtain rfl := hw.symm
        go_wp2_with fail
        refine HC2.out.mono ?_
        rintro e w6 ⟨rfl, hw⟩
        obtain rfl := hw.symm
        go_wp2
        go_ret
        exact ⟨by first | rfl | simp, HFR.out⟩
end Go.Proofs.YtjjjlilflbddoaaGreatDoor
