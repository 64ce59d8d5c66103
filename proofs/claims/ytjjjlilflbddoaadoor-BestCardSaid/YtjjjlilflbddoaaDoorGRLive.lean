import Derived.Test.YtjjjlilflbddoaaDoorGRSym
import Derived.Test.YtjjjlilflbddoaaDoorGPkC
namespace Go.Proofs.YtjjjlilflbddoaaDoor
open Go.RowKit

def DS.row (s : DS) : Fin 4 → Value
  | 0 => s.ov
  | 1 => s.kv
  | 2 => s.nv
  | 3 => s.tv
def ety : Fin 4 → TypeId
  | 0 => 5
  | 1 => 30
  | 2 => 3
  | 3 => 82
def esz : Fin 4 → Nat
  | 3 => 2
  | _ => 1

/-- The four lists that grow. -/
structure Rows4 (B rb : Nat) (K : List Nat) (w : World) (s : DS) (n : Fin 4 → Nat) (xs : Fin 4 → List Value) : Prop where
  row : ∀ j, w.ownsRow B (ety j) (esz j) (s.row j) (n j) (xs j)
  apart : ∀ i j b, (s.row i).ownBlock = some b → (s.row j).ownBlock = some b → i = j
  far : ∀ j b, (s.row j).ownBlock = some b → b ≠ rb ∧ b ∉ K

theorem ownsRow_lt {w : World} {B n b : Nat} {e : TypeId} {z : Nat} {v : Value} {xs : List Value} (h : w.ownsRow B e z v n xs) (hb : v.ownBlock = some b) : B ≤ b ∧ b < w.heap.size := by
  rcases h.2 with ⟨h, _⟩ | ⟨g, cap, cur, h, hB, hg, _⟩
  · rw [h] at hb; cases hb
  · rw [h] at hb; simp [Value.ownBlock] at hb; subst hb; exact ⟨hB, lt_of hg⟩

theorem Rows4.fr {B rb : Nat} {K : List Nat} {w w' : World} {s s' : DS} {n : Fin 4 → Nat} {xs : Fin 4 → List Value} (h : Rows4 B rb K w s n xs) (f : Fr (One rb) w w') (e : s'.row = s.row) : Rows4 B rb K w' s' n xs := by
  refine ⟨fun j => ?_, ?_, ?_⟩
  · rw [e]; exact ownsRow_fr (h.row j) f (fun g hg => one_ne (h.far j g hg).1)
  · rw [e]; exact h.apart
  · rw [e]; exact h.far

/-- One of them grows: its value v' lies in the old block or in a new one. -/
theorem Rows4.grow {B rb : Nat} {K : List Nat} {w w1 : World} {s s' : DS} {n n' : Fin 4 → Nat} {xs xs' : Fin 4 → List Value} (h : Rows4 B rb K w s n xs) (j : Fin 4) (g cap m : Nat)
    (hg : w.grownBy w1 (s.row j).ownBlock) (hv : s'.row j = .slice (some ⟨g, 0, none⟩) m cap) (ho : w1.ownsRow B (ety j) (esz j) (s'.row j) (n' j) (xs' j)) (hat : (s.row j).ownBlock = some g ∨ w.heap.size ≤ g)
    (hs : ∀ i, i ≠ j → s'.row i = s.row i) (hn : ∀ i, i ≠ j → n' i = n i) (hx : ∀ i, i ≠ j → xs' i = xs i) (hrb : rb < w.heap.size) (hK : ∀ k, k ∈ K → k < w.heap.size) : Rows4 B rb K w1 s' n' xs' := by
  have hgb : (s'.row j).ownBlock = some g := by rw [hv]; rfl
  have hgne : ∀ i b, i ≠ j → (s.row i).ownBlock = some b → b ≠ g := by
    intro i b hi hb e
    subst e
    rcases hat with h1 | h1
    · exact hi (h.apart i j b hb h1)
    · have := (ownsRow_lt (h.row i) hb).2; omega
  refine ⟨fun i => ?_, fun i k b hi hk => ?_, fun i b hi => ?_⟩
  · by_cases e : i = j
    · subst e; exact ho
    · rw [hs i e, hn i e, hx i e]
      have f : Fr (fun k => some k = (s.row j).ownBlock) w w1 := ⟨hg.os, hg.tape, hg.output, hg.size, fun k hk hs => hg.block k hk hs⟩
      exact ownsRow_fr (h.row i) f (fun b hb e2 => e (h.apart i j b hb e2.symm))
  · by_cases e1 : i = j
    · by_cases e2 : k = j
      · rw [e1, e2]
      · subst e1
        rw [hgb] at hi
        rw [hs k e2] at hk
        exact absurd (Option.some.inj hi).symm (hgne k b e2 hk)
    · by_cases e2 : k = j
      · subst e2
        rw [hgb] at hk
        rw [hs i e1] at hi
        exact absurd (Option.some.inj hk).symm (hgne i b e1 hi)
      · rw [hs i e1] at hi
        rw [hs k e2] at hk
        exact h.apart i k b hi hk
  · by_cases e1 : i = j
    · subst e1
      rw [hgb] at hi
      obtain rfl := Option.some.inj hi
      rcases hat with h1 | h1
      · exact h.far i g h1
      · exact ⟨by omega, fun e => by have := hK g e; omega⟩
    · rw [hs i e1] at hi; exact h.far i b hi

def tokv (t : Nat × Nat) : List Value := [iv t.1, iv t.2]
/-- How many, and which cells. -/
def cnt (x : Rf.D) : Fin 4 → Nat
  | 0 => x.out.length
  | 1 => x.keys.length
  | 2 => x.kinds.length
  | 3 => x.toks.length
def cel (x : Rf.D) (ks : List Value) : Fin 4 → List Value
  | 0 => x.out.map bv
  | 1 => ks
  | 2 => x.kinds.map iv
  | 3 => x.toks.flatMap tokv

/-- A row of numbers whose room is no less than its length. -/
def InsC (w : World) (b : Nat) (v : Value) (l : List Nat) : Prop := Ins w b v l ∧ ∃ a n cap, v = .slice a n cap ∧ n ≤ cap
theorem InsC.fr {S : Nat → Prop} {w w' : World} {b : Nat} {v : Value} {l : List Nat} (h : InsC w b v l) (f : Fr S w w') (hs : ¬ S b) : InsC w' b v l := ⟨h.1.fr f hs, h.2⟩
/-- The document's reader at work. -/
structure RL (B rb : Nat) (K : List Nat) (d : List UInt8) (lim : Nat) (x : Rf.D) (w : World) (s : DS) : Prop where
  da : Da w rb s
  hd : s.d = d
  slim : s.lim = lim
  sh : s.sh = (x.st == 2)
  er : s.er = if x.st = 2 then 0 else x.st
  pos : x.st = 0 → s.pos = x.pos ∧ x.pos ≤ 8 * d.length ∧ x.toks.length ≤ x.pos ∧ x.kinds.length ≤ x.pos ∧ x.keys.length ≤ x.pos
  rows : ∃ ks, Rows4 B rb K w s (cnt x) (cel x ks) ∧ ∀ i, i < x.keys.length → ∃ b, b ∈ K ∧ InsC w b (ks.getD i undef) (x.keys.getD i [])
  dn : s.dn = false
  bsz : B ≤ w.heap.size
  brb : B ≤ rb
  rbK : rb ∉ K
  klt : ∀ k, k ∈ K → k < w.heap.size
  limle : lim ≤ 6000
  len : x.out.length ≤ lim
  dlen : d.length ≤ 4000
  kge : ∀ k, k ∈ K → B ≤ k

section
variable {B rb : Nat} {K : List Nat} {d : List UInt8} {lim : Nat} {x x' : Rf.D} {w w' : World} {s s' : DS}
theorem RL.one (h : RL B rb K d lim x w s) : ∀ {w'}, Fr (One rb) w w' → Fr (Own B K) w w' := fun f => f.mono (fun k _ e => by have e' : k = rb := e; subst e'; exact ⟨h.brb, h.rbK⟩)
theorem RL.ne (h : RL B rb K d lim x w s) {k : Nat} (hk : k ∈ K) : k ≠ rb := fun e => h.rbK (e ▸ hk)
theorem RL.sh0 (h : RL B rb K d lim x w s) (h0 : x.st = 0) : s.sh = false := by rw [h.sh, h0]; rfl
theorem RL.er0 (h : RL B rb K d lim x w s) (h0 : x.st = 0) : s.er = 0 := by rw [h.er, h0]; rfl
theorem RL.good (h : RL B rb K d lim x w s) : s.good = (x.st == 0) := by
  unfold DS.good
  rw [h.sh, h.er]
  by_cases h2 : x.st = 2
  · rw [h2]; rfl
  · rw [if_neg h2]
    have : (x.st == 2) = false := by rw [beq_eq_false_iff_ne]; exact h2
    rw [this]; rfl
/-- Another place or flag, the lists as they are. -/
theorem RL.of (h : RL B rb K d lim x w s) (f : Fr (One rb) w w') (hr : Da w' rb s') (h1 : s'.s = s.s) (h2 : s'.lim = s.lim) (h3 : s'.row = s.row) (h4 : s'.dn = s.dn) (e1 : x'.out = x.out) (e2 : x'.keys = x.keys) (e3 : x'.kinds = x.kinds) (e4 : x'.toks = x.toks)
    (hsh : s'.sh = (x'.st == 2)) (her : s'.er = if x'.st = 2 then 0 else x'.st) (hpos : x'.st = 0 → s'.pos = x'.pos ∧ x'.pos ≤ 8 * d.length ∧ x'.toks.length ≤ x'.pos ∧ x'.kinds.length ≤ x'.pos ∧ x'.keys.length ≤ x'.pos) : RL B rb K d lim x' w' s' := by
  refine ⟨hr, ?_, h2.trans h.slim, hsh, her, hpos, ?_, h4.trans h.dn, Nat.le_trans h.bsz f.size, h.brb, h.rbK, fun k hk => Nat.lt_of_lt_of_le (h.klt k hk) f.size, h.limle, by rw [e1]; exact h.len, h.dlen, h.kge⟩
  · have := h.hd; unfold DS.d at *; rw [h1]; exact this
  · obtain ⟨ks, hrw, hks⟩ := h.rows
    have ec : cnt x' = cnt x := by funext j; match j with | 0 => exact congrArg _ e1 | 1 => exact congrArg _ e2 | 2 => exact congrArg _ e3 | 3 => exact congrArg _ e4
    have ee : cel x' ks = cel x ks := by funext j; match j with | 0 => exact congrArg (List.map bv) e1 | 1 => rfl | 2 => exact congrArg (List.map iv) e3 | 3 => exact congrArg (List.flatMap tokv) e4
    refine ⟨ks, by rw [ec, ee]; exact hrw.fr f h3, fun i hi => ?_⟩
    rw [e2] at hi ⊢
    obtain ⟨b, hb, hin⟩ := hks i hi
    exact ⟨b, hb, hin.fr f (one_ne (h.ne hb))⟩
/-- The same data, a step on. -/
theorem RL.step (h : RL B rb K d lim x w s) (h0 : x.st = 0) (f : Fr (One rb) w w') (q : Nat) (hr : Da w' rb { s with pos := q }) (hq : x.pos ≤ q) (hq2 : q ≤ 8 * d.length) : RL B rb K d lim { x with pos := q } w' { s with pos := q } := by
  have hp := h.pos h0
  exact h.of f hr rfl rfl rfl rfl rfl rfl rfl rfl h.sh h.er (fun _ => ⟨rfl, hq2, by show x.toks.length ≤ q; omega, by show x.kinds.length ≤ q; omega, by show x.keys.length ≤ q; omega⟩)
/-- Something was met. -/
theorem RL.bad (h : RL B rb K d lim x w s) (f : Fr (One rb) w w') (q p k : Nat) (hk : k ≠ 0) (hr : Da w' rb (s.bad q k)) : RL B rb K d lim { x with pos := p, st := k } w' (s.bad q k) :=
  h.of f hr rfl rfl rfl rfl rfl rfl rfl rfl rfl rfl (fun e => absurd e hk)
theorem RL.bad' (h : RL B rb K d lim x w s) (f : Fr (One rb) w w') (q k : Nat) (hk : k ≠ 0) (hr : Da w' rb (s.bad q k)) : RL B rb K d lim { x with st := k } w' (s.bad q k) :=
  h.of f hr rfl rfl rfl rfl rfl rfl rfl rfl rfl rfl (fun e => absurd e hk)
theorem RL.form (h : RL B rb K d lim x w s) (j : Fin 4) : ∃ ao cap, s.row j = .slice ao (cnt x j) cap := by
  obtain ⟨ks, hrw, _⟩ := h.rows
  rcases (hrw.row j).2 with ⟨h, h0⟩ | ⟨g, cap, cur, h, _⟩
  · exact ⟨none, 0, by rw [h, h0]⟩
  · exact ⟨_, _, h⟩
/-- A byte that was put out. -/
theorem RL.byte (h : RL B rb K d lim x w s) {i : Nat} (hi : i < x.out.length) : ∃ g cap, s.ov = .slice (some ⟨g, 0, none⟩) x.out.length cap ∧ w.cell? ⟨g, i, none⟩ = some (.int .u8 (x.out.getD i 0).toNat) := by
  obtain ⟨ks, hrw, _⟩ := h.rows
  have hrow : w.ownsRow B 5 1 s.ov x.out.length (x.out.map bv) := hrw.row 0
  rcases hrow.2 with ⟨_, h0⟩ | ⟨g, cap, cur, hv, _, hh, _, _, _, ht⟩
  · omega
  · refine ⟨g, cap, hv, ?_⟩
    rw [cell_of hh]
    have e1 : (cur.toList.take (x.out.length * 1))[i]? = (x.out.map bv)[i]? := by rw [ht]
    rw [List.getElem?_take_of_lt (by omega)] at e1
    rw [← Array.getElem?_toList, e1]
    simp [bv, List.getD, hi]
/-- One of the lists has grown by append, and was written back. -/
theorem RL.grown (h : RL B rb K d lim x w s) (j : Fin 4) (g cap m : Nat) (w0 w1 : World) (hw0 : Fr No w w0) (hg : w0.grownBy w1 (s.row j).ownBlock) (hat : (s.row j).ownBlock = some g ∨ w0.heap.size ≤ g) (ks ks' : List Value)
    (hrw : Rows4 B rb K w s (cnt x) (cel x ks)) (hk' : ∀ i, i < x'.keys.length → ∃ b, b ∈ K ∧ InsC w1 b (ks'.getD i undef) (x'.keys.getD i []))
    (hv : s'.row j = .slice (some ⟨g, 0, none⟩) m cap) (ho : w1.ownsRow B (ety j) (esz j) (s'.row j) (cnt x' j) (cel x' ks' j)) (hs : ∀ i, i ≠ j → s'.row i = s.row i) (hn : ∀ i, i ≠ j → cnt x' i = cnt x i) (hx : ∀ i, i ≠ j → cel x' ks' i = cel x ks i)
    (hr : Da (w1.setCell ⟨rb, 6 + j.val, none⟩ (s'.row j)) rb s') (h1 : s'.s = s.s) (h2 : s'.lim = s.lim) (h4 : s'.dn = s.dn) (hsh : s'.sh = (x'.st == 2)) (her : s'.er = if x'.st = 2 then 0 else x'.st)
    (hpos : x'.st = 0 → s'.pos = x'.pos ∧ x'.pos ≤ 8 * d.length ∧ x'.toks.length ≤ x'.pos ∧ x'.kinds.length ≤ x'.pos ∧ x'.keys.length ≤ x'.pos) (hlen : x'.out.length ≤ lim) :
    RL B rb K d lim x' (w1.setCell ⟨rb, 6 + j.val, none⟩ (s'.row j)) s' ∧ Fr (Own B K) w (w1.setCell ⟨rb, 6 + j.val, none⟩ (s'.row j)) := by
  have hrw0 : Rows4 B rb K w0 s (cnt x) (cel x ks) := hrw.fr hw0.of_no rfl
  have hrb0 : rb < w0.heap.size := Nat.lt_of_lt_of_le h.da.lt hw0.size
  have hkl0 : ∀ k, k ∈ K → k < w0.heap.size := fun k hk => Nat.lt_of_lt_of_le (h.klt k hk) hw0.size
  have hrw1 := hrw0.grow j g cap m hg hv ho hat hs hn hx hrb0 hkl0
  have f1 : Fr (One rb) w1 (w1.setCell ⟨rb, 6 + j.val, none⟩ (s'.row j)) := one_set rb _ w1 _
  have f01 : Fr (fun k => some k = (s.row j).ownBlock) w0 w1 := ⟨hg.os, hg.tape, hg.output, hg.size, fun k hk hs => hg.block k hk hs⟩
  have hfr : Fr (Own B K) w (w1.setCell ⟨rb, 6 + j.val, none⟩ (s'.row j)) := by
    refine ((hw0.of_no (T := Own B K)).trans (f01.mono (fun k hk e => ?_))).trans (f1.mono (fun k _ e => by have e' : k = rb := e; subst e'; exact ⟨h.brb, h.rbK⟩))
    exact ⟨(ownsRow_lt (hrw0.row j) e.symm).1, (hrw0.far j k e.symm).2⟩
  refine ⟨⟨hr, ?_, h2.trans h.slim, hsh, her, hpos, ⟨ks', hrw1.fr f1 rfl, fun i hi => ?_⟩, h4.trans h.dn, Nat.le_trans h.bsz hfr.size, h.brb, h.rbK, fun k hk => Nat.lt_of_lt_of_le (h.klt k hk) hfr.size, h.limle, hlen, h.dlen, h.kge⟩, hfr⟩
  · have := h.hd; unfold DS.d at *; rw [h1]; exact this
  · obtain ⟨b, hb, hin⟩ := hk' i hi
    exact ⟨b, hb, hin.fr f1 (one_ne (h.ne hb))⟩
/-- The keys stay where another list grows. -/
theorem RL.keys (_h : RL B rb K d lim x w s) (j : Fin 4) (w0 w1 : World) (hw0 : Fr No w w0) (hg : w0.grownBy w1 (s.row j).ownBlock) (ks : List Value) (hrw : Rows4 B rb K w s (cnt x) (cel x ks))
    (hkk : ∀ i, i < x.keys.length → ∃ b, b ∈ K ∧ InsC w b (ks.getD i undef) (x.keys.getD i [])) : ∀ i, i < x.keys.length → ∃ b, b ∈ K ∧ InsC w1 b (ks.getD i undef) (x.keys.getD i []) := by
  intro i hi
  obtain ⟨b, hb, hin⟩ := hkk i hi
  have f01 : Fr (fun k => some k = (s.row j).ownBlock) w0 w1 := ⟨hg.os, hg.tape, hg.output, hg.size, fun k hk hs => hg.block k hk hs⟩
  exact ⟨b, hb, (hin.fr hw0 (no_no _)).fr f01 (fun e => (hrw.far j b e.symm).2 hb)⟩
end
end Go.Proofs.YtjjjlilflbddoaaDoor
namespace Go.Proofs.YtjjjlilflbddoaaDoor
open Go.RowKit

set_option maxRecDepth 100000 in
set_option maxHeartbeats 1600000 in
theorem rput_any (B rb : Nat) (K : List Nat) (d : List UInt8) (lim : Nat) (x : Rf.D) (w : World) (s : DS) (c : UInt8) (h : RL B rb K d lim x w s) (h0 : x.st = 0) :
    Calls Tryd.prog 95 #[.pointer (some ⟨rb, 0, none⟩), .int .u8 c.toNat] w fun e w' => e = .returned (.tuple #[]) ∧ (∃ s', RL B rb K d lim (Rf.put lim x c) w' s') ∧ Fr (Own B K) w w' := by
  obtain ⟨ks, hrw, hkk⟩ := h.rows
  obtain ⟨i0, hi, hz0, hz1, hz2⟩ := info_parts rinfo5
  have c6 := h.da.c6
  have c5 := h.da.c5
  rw [h.slim] at c5
  have c3 := h.da.c3
  have e3 := h.da.fz 3
  have hlt := h.da.lt
  obtain ⟨ao, cap0, hov⟩ := h.form 0
  have hov : s.ov = .slice ao x.out.length cap0 := hov
  rw [hov] at c6
  have hll := h.limle
  have hol := h.len
  have hbsz := h.bsz
  have HH := hide h
  have HR := hide h.da
  have HV := hide hov
  have H0 := hide h0
  have HRW := hide hrw
  have HKK := hide hkk
  clear h hov h0 hrw hkk
  by_cases hl : lim ≤ x.out.length
  · have HP : Hid (Rf.put lim x c = { x with st := 8 }) := by unfold Hid Rf.put; rw [if_pos hl]
    go_enter Tryd.func95, Tryd.ntmps95
    go_wp2
    go_quiet (fail)
    go_wp2
    refine bodyPost_ret (results_none rfl _ _ _) rfl ?_
    refine ⟨rfl, ⟨s.bad s.pos 8, ?_⟩, HH.out.one (((Fr.refl _ _).drewN _).setCell (fun _ => one_self rb) _)⟩
    rw [HP.out]
    refine HH.out.bad' (((Fr.refl _ _).drewN _).setCell (fun _ => one_self rb) _) s.pos 8 (by omega) ?_
    rw [show s.bad s.pos 8 = { s with er := 8 } by unfold DS.bad; rw [show (8 == 2) = false from rfl, ← HH.out.sh0 H0.out]; rfl]
    exact Da.s3 (HR.out.drewN _) 8 8 rfl
  · have HP : Hid (Rf.put lim x c = { x with out := x.out ++ [c] }) := by unfold Hid Rf.put; rw [if_neg hl]
    go_enter Tryd.func95, Tryd.ntmps95
    go_wp2
    go_quiet (fail)
    go_wp2_with (at_builtin; refine wpList_append_lies _ rfl (.tmp 21) (.tmp 23) 51 rfl B 5 i0 (.int .u8 0) 1 1 Tryd.underlying51 hi hz0 hz1 hz2 rfl (by decide) (.slice ao x.out.length cap0) x.out.length (x.out.map bv) rfl ?hown ⟨w.heap.size, 0, none⟩ 1 1 [bv c] rfl rfl ?hnews ?h1 (by decide) ?h63 ?hb ?hbase _ rfl ?hK)
    case hown => exact ownsRow_fr (S := No) (HV.out ▸ HRW.out.row 0) (((Fr.refl _ _).drewN _).alloc _) (fun _ _ => no_no _)
    case hnews => intro j u hj; match j, hj with | 0, hj => simp at hj; subst hj; exact cell_of (alloc_at (World.drewN w _) _) 0
    case h1 => intro u hu; simp at hu; subst hu; rfl
    case h63 => unfold maxLen; omega
    case hb => omega
    case hbase => simp; omega
    case hK =>
      intro g cap w1 hown hgrow hat hlt1
      have hgrow' : World.grownBy _ w1 (s.row 0).ownBlock := (show (s.row 0) = _ from HV.out) ▸ hgrow
      have hfo : Fr (fun k => some k = (s.row 0).ownBlock) w w1 := (((Fr.refl _ _).drewN _).alloc _).trans ⟨hgrow'.os, hgrow'.tape, hgrow'.output, hgrow'.size, fun k hk hs => hgrow'.block k hk hs⟩
      have hr1 : Da w1 rb s := HR.out.fr hfo (fun e => (HRW.out.far 0 rb e.symm).1 rfl)
      have k6 := hr1.c6
      have e6 := hr1.fz 6
      have HR1 := hide hr1
      have HO1 := hide hown
      have HG := hide hgrow'
      have HA := hide hat
      clear hown hgrow hgrow' hat hfo hr1
      go_wp2
      go_end0
      have hg := HH.out.grown (x' := { x with out := x.out ++ [c] }) (s' := { s with ov := .slice (some ⟨g, 0, none⟩) (x.out.length + 1) cap }) 0 g cap (x.out.length + 1) _ w1 (((Fr.refl _ _).drewN _).alloc _) HG.out
        (by rcases HA.out with h | h
            · exact Or.inl (by rw [show s.row 0 = s.ov from rfl, HV.out]; exact h)
            · exact Or.inr (by rw [h]; simp)) ks ks HRW.out (HH.out.keys 0 _ w1 (((Fr.refl _ _).drewN _).alloc _) HG.out ks HRW.out HKK.out) rfl
        (by have := HO1.out
            show w1.ownsRow B 5 1 (.slice (some ⟨g, 0, none⟩) (x.out.length + 1) cap) (x.out ++ [c]).length ((x.out ++ [c]).map bv)
            simpa using this)
        (fun i hi => by match i, hi with | 1, _ => rfl | 2, _ => rfl | 3, _ => rfl | 0, h => exact absurd rfl h)
        (fun i hi => by match i, hi with | 1, _ => rfl | 2, _ => rfl | 3, _ => rfl | 0, h => exact absurd rfl h)
        (fun i hi => by match i, hi with | 1, _ => rfl | 2, _ => rfl | 3, _ => rfl | 0, h => exact absurd rfl h)
        (HR1.out.s6 _) rfl rfl rfl HH.out.sh HH.out.er HH.out.pos (by simp; omega)
      refine ⟨rfl, ⟨{ s with ov := .slice (some ⟨g, 0, none⟩) (x.out.length + 1) cap }, ?_⟩, hg.2⟩
      rw [HP.out]
      exact hg.1
end Go.Proofs.YtjjjlilflbddoaaDoor
namespace Go.Proofs.YtjjjlilflbddoaaDoor
open Go.RowKit

section
variable {B rb : Nat} {K : List Nat} {d : List UInt8} {lim : Nat} {x x' : Rf.D} {w w' : World} {s s' : DS}
theorem RL.no (h : RL B rb K d lim x w s) (f : Fr No w w') : RL B rb K d lim x w' s :=
  h.of f.of_no (h.da.fr f (no_no _)) rfl rfl rfl rfl rfl rfl rfl rfl h.sh h.er h.pos
end

/-- A code in memory, in blocks that stay. -/
def CodeIn (w : World) (K : List Nat) (v : Value) (l : List Nat) : Prop :=
  ∃ bl bc lv cv, v = .agg #[lv, cv] ∧ bl ∈ K ∧ bc ∈ K ∧ Ins w bl lv l ∧ Ins w bc cv (codes l) ∧ Lens l ∧ l.length ≤ 400 ∧ 0 < l.length
theorem CodeIn.fr {B : Nat} {K : List Nat} {w w' : World} {v : Value} {l : List Nat} (h : CodeIn w K v l) (f : Fr (Own B K) w w') : CodeIn w' K v l := by
  obtain ⟨bl, bc, lv, cv, e, h1, h2, h3, h4, r⟩ := h
  exact ⟨bl, bc, lv, cv, e, h1, h2, h3.fr f (fun e => e.2 h1), h4.fr f (fun e => e.2 h2), r⟩

theorem rnum_any (B rb n : Nat) (K : List Nat) (d : List UInt8) (lim : Nat) (x : Rf.D) (w : World) (s : DS) (h : RL B rb K d lim x w s) (h0 : x.st = 0) (h16 : n ≤ 16) :
    Calls Tryd.prog 64 #[.pointer (some ⟨rb, 0, none⟩), .int .i64 n] w fun e w' => Fr (One rb) w w' ∧ match Gz.num d n x.pos with
      | .ok (v, q) => e = .returned (.int .i64 (v : Nat)) ∧ v < 65536 ∧ q ≤ 8 * d.length ∧ x.pos ≤ q ∧ RL B rb K d lim { x with pos := q } w' { s with pos := q }
      | .error k => k = 2 ∧ (∃ v : Nat, v < 65536 ∧ e = .returned (.int .i64 v)) ∧ ∃ q, RL B rb K d lim { x with st := 2 } w' (s.bad q 2) := by
  have hp := h.pos h0
  have hs := h.sh0 h0
  unfold Gz.num
  by_cases hl : x.pos + n ≤ 8 * d.length
  · rw [if_pos hl]
    refine (rnum_ok rb n s d w h.da h.hd h.dlen hs h16 (by omega)).mono ?_
    rintro e w' ⟨rfl, hr, hf⟩
    rw [hp.1] at hr ⊢
    refine ⟨hf, rfl, ?_, hl, by omega, h.step h0 hf _ hr (by omega) hl⟩
    have h1 := val_lt d x.pos n
    have h2 : 2 ^ n ≤ 2 ^ 16 := Nat.pow_le_pow_right (by decide) h16
    omega
  · rw [if_neg hl]
    refine (rnum_no rb n s d w h.da h.hd h.dlen (by omega) h16 (Or.inr (by omega))).mono ?_
    rintro e w' ⟨hv, ⟨q, _, hr⟩, hf⟩
    have e1 : ({ s with pos := q, sh := true } : DS) = s.bad q 2 := by unfold DS.bad; rw [show (2 == 2) = true from rfl, if_pos rfl, h.er0 h0]
    rw [e1] at hr
    exact ⟨hf, rfl, hv, q, h.bad' hf q 2 (by omega) hr⟩

/-- A number asked for when the flag is set already. -/
theorem rnum_dead (B rb n : Nat) (K : List Nat) (d : List UInt8) (lim : Nat) (x : Rf.D) (w : World) (s : DS) (h : RL B rb K d lim x w s) (h2 : x.st = 2) (h0 : 0 < n) (h16 : n ≤ 16) :
    Calls Tryd.prog 64 #[.pointer (some ⟨rb, 0, none⟩), .int .i64 n] w fun e w' => Fr (One rb) w w' ∧ (∃ v : Nat, v < 65536 ∧ e = .returned (.int .i64 v)) ∧ ∃ q, RL B rb K d lim x w' (s.bad q 2) := by
  have hsh : s.sh = true := by rw [h.sh, h2]; rfl
  have her : s.er = 0 := by rw [h.er, if_pos h2]
  refine (rnum_no rb n s d w h.da h.hd h.dlen h0 h16 (Or.inl hsh)).mono ?_
  rintro e w' ⟨hv, ⟨q, _, hr⟩, hf⟩
  have e1 : ({ s with pos := q, sh := true } : DS) = s.bad q 2 := by unfold DS.bad; rw [show (2 == 2) = true from rfl, if_pos rfl, her]
  rw [e1] at hr
  refine ⟨hf, hv, q, ?_⟩
  exact h.of hf hr rfl rfl rfl rfl rfl rfl rfl rfl (by rw [h2]; rfl) (by rw [h2]; rfl) (fun e => by omega)

theorem rsym_any (B rb : Nat) (K : List Nat) (d : List UInt8) (lim : Nat) (x : Rf.D) (w : World) (s : DS) (v : Value) (l : List Nat) (h : RL B rb K d lim x w s) (h0 : x.st = 0) (hc : CodeIn w K v l) :
    Calls Tryd.prog 99 #[.pointer (some ⟨rb, 0, none⟩), v] w fun e w' => Fr (One rb) w w' ∧ match Gz.sym d (Gz.makeCode l) x.pos with
      | .ok (sy, q) => e = .returned (.int .i64 (sy : Nat)) ∧ sy < l.length ∧ q ≤ 8 * d.length ∧ x.pos < q ∧ RL B rb K d lim { x with pos := q } w' { s with pos := q }
      | .error k => k ≠ 0 ∧ e = .returned (.int .i64 (-1)) ∧ ∃ q, RL B rb K d lim { x with st := k } w' (s.bad q k) := by
  obtain ⟨bl, bc, lv, cv, rfl, k1, k2, i1, i2, hl, hll, hl0⟩ := hc
  have hp := h.pos h0
  refine (rsymbol_any rb bl bc s d l lv cv w h.da h.hd h.dlen (h.sh0 h0) (h.er0 h0) hl hll hl0 i1 i2 (h.ne k1) (h.ne k2)).mono ?_
  rw [hp.1]
  rintro e w' ⟨hf, hres⟩
  refine ⟨hf, ?_⟩
  cases hs : Gz.sym d (Gz.makeCode l) x.pos with
  | ok okk =>
    obtain ⟨sy, q⟩ := okk
    rw [hs] at hres
    have hq := sym_ok hs
    refine ⟨hres.1, symGo_lt d _ l.length (makeCode_small l hl0) _ _ _ _ _ _ _ _ hs, hq.2, hq.1, h.step h0 hf q hres.2 (by omega) hq.2⟩
  | error k =>
    rw [hs] at hres
    obtain ⟨⟨v, rfl, rfl⟩, q, hr⟩ := hres
    have hk : k ≠ 0 := by
      have := symGo_bad d _ _ _ _ _ _ _ _ hs; omega
    exact ⟨hk, rfl, q, h.bad' hf q k hk hr⟩

theorem rlength_sy (sy : Nat) (h1 : 257 ≤ sy) (h2 : sy ≤ 285) (w : World) :
    Calls Tryd.prog 70 #[.int .i64 (sy : Int)] w fun e w' => e = .returned (.agg #[.int .i64 (Gz.lenFrom.getD (sy - 257) 0 : Nat), .int .i64 (Gz.lenBits sy : Nat)]) ∧ Fr No w w' := by
  have h := rlength_any (sy - 257) (by omega) w
  rw [show (((sy - 257 : Nat) : Int) + 257) = (sy : Int) by omega, show sy - 257 + 257 = sy by omega] at h
  exact h

/-- Bytes are copied, one by one. -/
theorem copyN_bad (lim far n : Nat) (x : Rf.D) (h : x.st ≠ 0) : Rf.copyN lim far n x = x := by
  cases n with
  | zero => rfl
  | succ n => unfold Rf.copyN; rw [if_neg h]
end Go.Proofs.YtjjjlilflbddoaaDoor
