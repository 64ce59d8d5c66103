import Derived.Test.YtjjjlilflbddoaaGreatDoorQM
import Derived.Test.YtjjjlilflbddoaaGreatDoorQKept
import Derived.Test.YtjjjlilflbddoaaGreatDoorInfl
/-
  A decoder as a function: what it was fed since it began, and what it tells.
-/
namespace Go.Proofs.YtjjjlilflbddoaaGreatDoor
namespace Gz

structure Dec where
  tc : Tc
  on : Bool
  lim : Nat
  data : List UInt8
  begun : Nat
  told : Nat

def Dec.new (cache : Nat) : Dec := ⟨Tc.new cache, false, 0, [], 0, 12⟩
/-- Where the machine stands behind all the data so far. -/
def Dec.at (x : Dec) : M := final x.data x.lim M.start
def Dec.begin (x : Dec) (lim : Nat) : Dec := { x with on := true, lim := lim, data := [], begun := 0, told := 2 }
def Dec.stop (x : Dec) (k : Nat) : Dec := { x with on := false, told := k }
/-- What was met, and all that was put out, with the data d. -/
def metBy (d : List UInt8) (lim : Nat) : Nat × List UInt8 := match step d lim (final d lim M.start) with
  | .error (k, o) => (k, o)
  | .ok m => (99, m.out)
def Dec.next (x : Dec) (p : List UInt8) : M := final (x.data ++ p) x.lim M.start
def Dec.fed (x : Dec) (p : List UInt8) : Dec := { x with data := x.data ++ p, tc := x.tc.asks ((x.next p).asks.drop x.at.asks.length) }
def Dec.feed (x : Dec) (p : List UInt8) : Dec × List UInt8 × Nat :=
  if x.on = false then (x, [], 12)
  else if 4000 < (x.data ++ p).length then (x.stop 1, [], 1)
  else if (metBy (x.data ++ p) x.lim).1 = 2 then (x.fed p, (metBy (x.data ++ p) x.lim).2.drop x.at.out.length, 0)
  else if (metBy (x.data ++ p) x.lim).1 = 0 then ({ (x.fed p).stop 0 with begun := ((x.next p).pos + 7) / 8 }, (metBy (x.data ++ p) x.lim).2.drop x.at.out.length, 0)
  else ((x.fed p).stop (metBy (x.data ++ p) x.lim).1, (metBy (x.data ++ p) x.lim).2.drop x.at.out.length, (metBy (x.data ++ p) x.lim).1)

theorem metBy_eq {d : List UInt8} {lim k : Nat} {o : List UInt8} (h : step d lim (final d lim M.start) = .error (k, o)) : metBy d lim = (k, o) := by unfold metBy; rw [h]
/-- What is kept is not seen in what is told. -/
theorem feed_alike (x y : Dec) (p : List UInt8) (h1 : x.on = y.on) (h2 : x.lim = y.lim) (h3 : x.data = y.data) : (x.feed p).2 = (y.feed p).2 := by
  unfold Dec.feed Dec.at
  rw [h1, h2, h3]
  split
  · rfl
  split
  · rfl
  split
  · rfl
  split
  · rfl
  · rfl
end Gz
end Go.Proofs.YtjjjlilflbddoaaGreatDoor
namespace Go.Proofs.YtjjjlilflbddoaaGreatDoor
open Go.RowKit

/-- The decoder's block. -/
def Db (w : World) (dcb tsb : Nat) (rv : Value) (room begun told : Nat) : Prop := w.heap[dcb]? = some (.cells #[.pointer (some ⟨tsb, 0, none⟩), rv, .int .i64 room, .int .i64 begun, .int .i64 told] 67 (0, 0))
section
variable {w : World} {dcb tsb room begun told : Nat} {rv : Value}
theorem Db.c0 (h : Db w dcb tsb rv room begun told) : w.cell? ⟨dcb, 0, none⟩ = some (.pointer (some ⟨tsb, 0, none⟩)) := by rw [cell_of h]; rfl
theorem Db.c1 (h : Db w dcb tsb rv room begun told) : w.cell? ⟨dcb, 1, none⟩ = some rv := by rw [cell_of h]; rfl
theorem Db.c2 (h : Db w dcb tsb rv room begun told) : w.cell? ⟨dcb, 2, none⟩ = some (.int .i64 room) := by rw [cell_of h]; rfl
theorem Db.c3 (h : Db w dcb tsb rv room begun told) : w.cell? ⟨dcb, 3, none⟩ = some (.int .i64 begun) := by rw [cell_of h]; rfl
theorem Db.c4 (h : Db w dcb tsb rv room begun told) : w.cell? ⟨dcb, 4, none⟩ = some (.int .i64 told) := by rw [cell_of h]; rfl
theorem Db.fz (h : Db w dcb tsb rv room begun told) (i : Nat) : w.frozen? ⟨dcb, i, none⟩ = false := frozen_of h i
theorem Db.s1 (h : Db w dcb tsb rv room begun told) (v : Value) : Db (w.setCell ⟨dcb, 1, none⟩ v) dcb tsb v room begun told := by unfold Db; rw [set_of h]; rfl
theorem Db.s2 (h : Db w dcb tsb rv room begun told) (z : Int) (n : Nat) (e : z = n) : Db (w.setCell ⟨dcb, 2, none⟩ (.int .i64 z)) dcb tsb rv n begun told := by subst e; unfold Db; rw [set_of h]; rfl
theorem Db.s3 (h : Db w dcb tsb rv room begun told) (z : Int) (n : Nat) (e : z = n) : Db (w.setCell ⟨dcb, 3, none⟩ (.int .i64 z)) dcb tsb rv room n told := by subst e; unfold Db; rw [set_of h]; rfl
theorem Db.s4 (h : Db w dcb tsb rv room begun told) (z : Int) (n : Nat) (e : z = n) : Db (w.setCell ⟨dcb, 4, none⟩ (.int .i64 z)) dcb tsb rv room begun n := by subst e; unfold Db; rw [set_of h]; rfl
theorem Db.fr {S : Nat → Prop} {w' : World} (h : Db w dcb tsb rv room begun told) (f : Fr S w w') (hs : ¬ S dcb) : Db w' dcb tsb rv room begun told := f.at h hs
end

/-- A decoder's block is none of a reader's, nor of tables. -/
theorem TableAt.other {w w' : World} {K : List Nat} {tb s1 s2 b : Nat} {t : Gz.Table} {cc : Array Value} (hT : TableAt w K tb s1 s2 t) (hb : w.heap[b]? = some (.cells cc 67 (0, 0))) (f : Fr (One b) w w') : TableAt w' K tb s1 s2 t := by
  have hn : ∀ {k : Nat} {c : Array Value} {ty : TypeId}, ty ≠ 67 → w.heap[k]? = some (.cells c ty (0, 0)) → ¬ One b k := fun h1 hh e => by
    have e' : _ = b := e
    rw [e', hb] at hh; injection hh with hh; injection hh with _ hh; exact h1 hh.symm
  obtain ⟨⟨a, ha⟩, ⟨b', hb'⟩, c', hc⟩ := hT.tg
  have h0 := hn (by decide) ha
  have h1 := hn (by decide) hb'
  have h2 := hn (by decide) hc
  exact ⟨hT.syms.fr f h0 h1, hT.dists.fr f h0 h2, hT.g1, hT.g2, hT.k0, hT.k1, hT.k2, hT.tg.fr f h0 h1 h2⟩
theorem TabsAt.other {w w' : World} {K : List Nat} {tsb mb b : Nat} {c : Gz.Tc} {cc : Array Value} (h : TabsAt w K tsb mb c) (hb : w.heap[b]? = some (.cells cc 67 (0, 0))) (f : Fr (One b) w w') : TabsAt w' K tsb mb c := by
  obtain ⟨D, hD, hH⟩ := h.map
  have h1 : tsb ≠ b := fun e => by have h2 := h.blk; unfold Tb at h2; rw [e, hb] at h2; injection h2 with h2; injection h2 with _ h2; exact absurd h2 (by decide)
  have h2 : mb ≠ b := fun e => by obtain ⟨es, clock, hb2, _⟩ := hD; rw [e, hb] at hb2; simp at hb2
  exact ⟨h.blk.fr f (one_ne h1), h.ok, D, ownsMap_fr hD f (one_ne h2), hH.mono (fun tb l ⟨s1, s2, hT⟩ => ⟨s1, s2, hT.other hb f⟩)⟩
theorem Rst.other {sp : Nat → Addr} {B rb tsb mb b : Nat} {K1 : List Nat} {d : List UInt8} {m : Gz.M} {c : Gz.Tc} {w w' : World} {s : RS} {cc : Array Value} (h : Rst sp B rb tsb mb K1 d m c w s) (hb : w.heap[b]? = some (.cells cc 67 (0, 0))) (hB : B ≤ b) (f : Fr (One b) w w') : Rst sp B rb tsb mb K1 d m c w' s := by
  have h13 := h.b13
  have hn5 : ∀ {k : Nat}, (∃ cur, w.heap[k]? = some (.cells cur 5 (0, 0))) → ¬ One b k := fun ⟨cur, hh⟩ e => by
    have e' : _ = b := e
    rw [e', hb] at hh; injection hh with hh; injection hh with _ hh; exact absurd hh (by decide)
  have hr : rb ≠ b := fun e => by have h2 := h.rd.1; rw [e, hb] at h2; injection h2 with h2; injection h2 with _ h2; exact absurd h2 (by decide)
  refine ⟨h.env.fr f (fun k hk => one_ne (by omega)), h.rd.fr f (one_ne hr), ownsRow_fr h.drow f (fun g hg => hn5 (row_block h.drow hg).2), h.dap, ownsRow_fr h.row f (fun g hg => hn5 (row_block h.row hg).2), h.oap, h13, Nat.le_trans h.bsz f.size, h.brb, h.rbK, fun k hk => Nat.lt_of_lt_of_le (h.klt k hk) f.size, h.lim, h.len, h.tot, h.tabs.other hb f, h.ts, h.b1, h.b2, h.n1, h.n2, h.pos, h.pl, h.la, h.le, ?_, h.sound⟩
  have ht := h.tab
  cases hm : m.tab with
  | none => rw [hm] at ht; exact ht
  | some x =>
    rw [hm] at ht
    obtain ⟨tb, s1, s2, e, hT⟩ := ht
    exact ⟨tb, s1, s2, e, hT.other hb f⟩

/-- A decoder in memory. -/
structure DecAt (sp : Nat → Addr) (B dcb tsb mb : Nat) (K : List Nat) (x : Gz.Dec) (w : World) : Prop where
  env : Env sp w
  b13 : 16 ≤ B
  bsz : B ≤ w.heap.size
  b0 : B ≤ dcb
  b1 : B ≤ tsb
  b2 : B ≤ mb
  n0 : dcb ∉ K
  n1 : tsb ∉ K
  n2 : mb ∉ K
  klt : ∀ k ∈ K, k < w.heap.size
  lim : x.lim ≤ 6000
  dlen : x.data.length ≤ 4000
  bg : x.begun ≤ 4000
  tl : x.told ≤ 12
  tabs : TabsAt w K tsb mb x.tc
  off : x.on = false → ∃ room, room ≤ 4000 ∧ Db w dcb tsb (.pointer none) room x.begun x.told
  on : x.on = true → ∃ rb s mL, Db w dcb tsb (.pointer (some ⟨rb, 0, none⟩)) (4000 - x.data.length) x.begun x.told ∧ Rst sp B rb tsb mb (dcb :: K) (x.data.drop s.ps) mL x.tc w s ∧ mL.by (8 * s.ps) = x.at ∧ s.lim = x.lim ∧ s.ps ≤ x.data.length

namespace Gz
theorem by_pos {m : M} {n : Nat} : (m.by n).pos = m.pos + n := rfl
/-- Reading on is reading from the beginning. -/
theorem next_of {x : Dec} {p : List UInt8} {ps : Nat} {mL : M} (hat : mL.by (8 * ps) = x.at) (hps : ps ≤ x.data.length) (hpos : mL.pos ≤ 8 * (x.data.drop ps).length) :
    (final (x.data.drop ps ++ p) x.lim mL).by (8 * ps) = x.next p ∧ ∀ k o, step (x.data.drop ps ++ p) x.lim (final (x.data.drop ps ++ p) x.lim mL) = .error (k, o) → step (x.data ++ p) x.lim (x.next p) = .error (k, o) := by
  have hd : x.data.drop ps ++ p = (x.data ++ p).drop ps := by rw [List.drop_append_of_le_length hps]
  have hle : ps ≤ (x.data ++ p).length := by rw [List.length_append]; omega
  have hpos2 : mL.pos ≤ 8 * ((x.data ++ p).drop ps).length := by rw [← hd, List.length_append]; omega
  have h1 : (final (x.data.drop ps ++ p) x.lim mL).by (8 * ps) = x.next p := by
    rw [hd, ← final_drop (x.data ++ p) ps x.lim hle mL hpos2, hat]
    unfold Dec.next Dec.at
    exact (final_app x.data p x.lim M.start (Nat.zero_le _)).symm
  refine ⟨h1, fun k o h => ?_⟩
  rw [← h1]
  rw [hd] at h ⊢
  exact step_drop_bad (x.data ++ p) ps x.lim hle h
end Gz
end Go.Proofs.YtjjjlilflbddoaaGreatDoor
namespace Go.Proofs.YtjjjlilflbddoaaGreatDoor
open Go.RowKit

theorem neq22 : Tryz.prog.underlying 55 = some (.interface (Tryz.prog.methodsAt 55)) := m33
set_option maxHeartbeats 800000 in
theorem toldAs_nil (w : World) : Calls Tryz.prog 19 #[.nilIface] w fun e w' => e = .returned (.int .i64 0) ∧ Fr No w w' := by
  have h0 : ∀ w : World, (binOp .eql 55 .nilIface .nilIface).run Tryz.prog w = .ok (.bool true) w := fun w => run_eql_nil_nil _ 55 m33
  go_enter Tryz.func19, Tryz.ntmps19
  go_wp2
  go_ret
  exact ⟨rfl, (Fr.refl _ _).alloc _⟩

theorem stop_any (dcb tsb room begun told k : Nat) (rv : Value) (w : World) (h : Db w dcb tsb rv room begun told) :
    Calls Tryz.prog 43 #[.pointer (some ⟨dcb, 0, none⟩), .int .i64 k] w fun e w' => e = .returned (.tuple #[]) ∧ Db w' dcb tsb (.pointer none) room begun k ∧ Fr (One dcb) w w' := by
  have c1 := h.c1
  have f1 := h.fz 1
  have h1 := h.s1 (.pointer none)
  have c4 := h1.c4
  have f4 := h1.fz 4
  have HB := hide (h1.s4 (k : Int) k rfl)
  clear h h1
  go_enter Tryz.func43, Tryz.ntmps43
  go_wp2
  go_end0
  exact ⟨rfl, HB.out, ((Fr.refl _ _).setCell (fun _ => one_self dcb) _).setCell (fun _ => one_self dcb) _⟩

section
variable {sp : Nat → Addr} {B rb tsb mb dcb : Nat} {K K1 K2 : List Nat} {d : List UInt8} {m : Gz.M} {c : Gz.Tc} {w w' : World} {s : RS} {x y : Gz.Dec}
theorem Rst.same (h : Rst sp B rb tsb mb K1 d m c w s) (hK : ∀ k, k ∈ K1 ↔ k ∈ K2) : Rst sp B rb tsb mb K2 d m c w s :=
  ⟨h.env, h.rd, h.drow, fun g hg => ⟨fun hm => (h.dap g hg).1 ((hK g).2 hm), (h.dap g hg).2⟩, h.row, fun k hk hm => h.oap k hk ((hK k).2 hm), h.b13, h.bsz, h.brb, fun hm => h.rbK ((hK _).2 hm), fun k hk => h.klt k ((hK k).2 hk), h.lim, h.len, h.tot, h.tabs.sub (fun k hk => (hK k).1 hk), h.ts, h.b1, h.b2, fun hm => h.n1 ((hK _).2 hm), fun hm => h.n2 ((hK _).2 hm), h.pos, h.pl, h.la, h.le, h.tab.sub (fun k hk => (hK k).1 hk), h.sound⟩
/-- The decoder's block is struck from those that stay. -/
theorem TabsAt.strike {cc : Array Value} (h : TabsAt w K1 tsb mb c) (hb : w.heap[dcb]? = some (.cells cc 67 (0, 0))) : TabsAt w (K1.filter fun k => decide (k ≠ dcb)) tsb mb c := by
  obtain ⟨D, hD, hH⟩ := h.map
  refine ⟨h.blk, h.ok, D, hD, hH.mono (fun tb l ⟨s1, s2, hT⟩ => ⟨s1, s2, hT.cut (fun k hk ⟨cc', ty, hh, hty⟩ => List.mem_filter.2 ⟨hk, decide_eq_true (fun e => ?_)⟩)⟩)⟩
  rw [e, hb] at hh
  injection hh with hh
  injection hh with _ hh
  rw [← hh] at hty
  revert hty
  decide
theorem DecAt.mk' (hD : DecAt sp B dcb tsb mb K x w) (hl : y.lim ≤ 6000) (hdl : y.data.length ≤ 4000) (hbg : y.begun ≤ 4000) (htl : y.told ≤ 12) (hT : TabsAt w' K2 tsb mb y.tc) (hE : Env sp w') (hs : w.heap.size ≤ w'.heap.size) (hG : Grow K K2 w w') (n0 : dcb ∉ K2)
    (hoff : y.on = false → ∃ room, room ≤ 4000 ∧ Db w' dcb tsb (.pointer none) room y.begun y.told)
    (hon : y.on = true → ∃ rb s mL, Db w' dcb tsb (.pointer (some ⟨rb, 0, none⟩)) (4000 - y.data.length) y.begun y.told ∧ Rst sp B rb tsb mb (dcb :: K2) (y.data.drop s.ps) mL y.tc w' s ∧ mL.by (8 * s.ps) = y.at ∧ s.lim = y.lim ∧ s.ps ≤ y.data.length) : DecAt sp B dcb tsb mb K2 y w' := by
  have h1 := hD.tabs.lt
  have h2 := hD.tabs.ltm
  refine ⟨hE, hD.b13, Nat.le_trans hD.bsz hs, hD.b0, hD.b1, hD.b2, n0, fun hm => ?_, fun hm => ?_, fun k hk => ?_, hl, hdl, hbg, htl, hT, hoff, hon⟩
  · rcases hG.2 _ hm with h | h
    · exact hD.n1 h
    · omega
  · rcases hG.2 _ hm with h | h
    · exact hD.n2 h
    · omega
  · rcases hG.2 _ hk with h | h
    · exact Nat.lt_of_lt_of_le (hD.klt k h) hs
    · exact h.2
end

theorem Blk.frB {sp : Nat → Addr} {B : Nat} {K : List Nat} {w w' : World} (h : Blk sp w) (hsp : ∀ k, 3 ≤ k → k ≤ 10 → (sp k).block < B) (f : Fr (Own B K) w w') : Blk sp w' := fun k h3 h8 => by
  obtain ⟨cc, ty, hc⟩ := h k h3 h8
  exact ⟨cc, ty, f.at hc (fun e => by have := e.1; have := hsp k h3 h8; omega)⟩
/-- How Feed comes to its end. -/
def RanF (sp : Nat → Addr) (B dcb tsb mb : Nat) (K : List Nat) (x : Gz.Dec) (p : List UInt8) (w : World) (e : Ending) (w' : World) : Prop :=
  e = .returned (.tuple #[.string ⟨(x.feed p).2.1.toArray⟩, .int .i64 ((x.feed p).2.2 : Nat)]) ∧ Fr (Own B K) w w' ∧ ∃ K', DecAt sp B dcb tsb mb K' (x.feed p).1 w' ∧ Grow K K' w w' ∧ (x.feed p).1.tc.asked ≤ x.tc.asked + 32000

set_option maxRecDepth 100000 in
set_option maxHeartbeats 1600000 in
theorem feed_any (sp : Nat → Addr) (B dcb tsb mb : Nat) (K : List Nat) (x : Gz.Dec) (w : World) (t : ByteArray) (p : List UInt8) (hp : t.data.toList = p) (hD : DecAt sp B dcb tsb mb K x w) (hBl : Blk sp w) (hsp : ∀ k, 3 ≤ k → k ≤ 10 → (sp k).block < B) (hP : Pow w) (hask : x.tc.asked + 32000 < 2 ^ 62) :
    Calls Tryz.prog 25 #[.pointer (some ⟨dcb, 0, none⟩), .string t] w (RanF sp B dcb tsb mb K x p w) := by
  have htl : t.size = p.length := by rw [← hp]; simp
  cases hon : x.on with
  | false =>
    obtain ⟨room, hroom, hb⟩ := hD.off hon
    have hf : x.feed p = (x, [], 12) := by unfold Gz.Dec.feed; rw [if_pos hon]
    have c1 := hb.c1
    have HD := hide hD
    clear hD hb
    go_enter Tryz.func25, Tryz.ntmps25
    go_wp2
    go_ret2
    unfold RanF
    rw [hf]
    exact ⟨rfl, Fr.refl _ _, K, HD.out, Grow.refl _ _ _, Nat.le_add_right _ _⟩
  | true =>
    obtain ⟨rb, s, mL, hb, hR, hat, hlim, hps⟩ := hD.on hon
    have hdl := hD.dlen
    have c1 := hb.c1
    have c2 := hb.c2
    have f2 := hb.fz 2
    have f1 := hb.fz 1
    have hlen : (x.data ++ p).length = x.data.length + p.length := List.length_append
    by_cases hlong : 4000 < (x.data ++ p).length
    · have hf : x.feed p = (x.stop 1, [], 1) := by unfold Gz.Dec.feed; rw [if_neg (by rw [hon]; decide), if_pos hlong]
      have hgt : decide (((4000 - x.data.length : Nat) : Int) < (t.size : Int)) = true := by simp; omega
      obtain ⟨rm, hrm⟩ : ∃ rm, rm = 4000 - x.data.length := ⟨_, rfl⟩
      rw [← hrm] at hgt c2 hb
      have hrm4 : rm ≤ 4000 := by omega
      have HC := hide (stop_any dcb tsb rm x.begun x.told 1 _ w hb)
      have HD := hide hD
      have HB := hide hb
      have hgt' : (rm : Int) < (t.size : Int) := by simpa using hgt
      clear hD hb hR hat hrm hlong hlen
      go_enter Tryz.func25, Tryz.ntmps25
      go_wp2_with fail
      refine HC.out.mono ?_
      rintro e w1 ⟨rfl, hb1, hf1⟩
      have HB1 := hide hb1
      clear hb1
      go_wp2
      go_ret2
      unfold RanF
      rw [hf]
      have h13 := HD.out.b13
      have h0 := HD.out.b0
      refine ⟨rfl, hf1.mono (fun k _ e => by have e' : k = dcb := e; subst e'; exact ⟨h0, HD.out.n0⟩), K, ?_, Grow.refl _ _ _, Nat.le_add_right _ _⟩
      exact ⟨HD.out.env.fr hf1 (fun k hk => one_ne (by omega)), h13, Nat.le_trans HD.out.bsz hf1.size, h0, HD.out.b1, HD.out.b2, HD.out.n0, HD.out.n1, HD.out.n2, fun k hk => Nat.lt_of_lt_of_le (HD.out.klt k hk) hf1.size, HD.out.lim, HD.out.dlen, HD.out.bg, by show 1 ≤ 12; omega, HD.out.tabs.other HB.out hf1, fun _ => ⟨rm, hrm4, HB1.out⟩, fun h => by cases h⟩
    · have hle : decide (((4000 - x.data.length : Nat) : Int) < (t.size : Int)) = false := by simp; omega
      obtain ⟨rm, hrm⟩ : ∃ rm, rm = 4000 - x.data.length := ⟨_, rfl⟩
      rw [← hrm] at hle c2 hb
      have hpsl : (x.data.drop s.ps).length = x.data.length - s.ps := by simp
      have hle' : ¬ (rm : Int) < (t.size : Int) := by simpa using hle
      have hrm4 : rm ≤ 4000 := by omega
      have hts4 : t.size ≤ rm := by omega
      obtain ⟨w1, hw1⟩ : ∃ w1, w1 = w.setCell ⟨dcb, 2, none⟩ (.int .i64 ((rm : Int) - (t.size : Int))) := ⟨_, rfl⟩
      have hb1 : Db w1 dcb tsb (.pointer (some ⟨rb, 0, none⟩)) (4000 - (x.data ++ p).length) x.begun x.told := by rw [hw1]; exact hb.s2 _ _ (by omega)
      have hf1 : Fr (One dcb) w w1 := by rw [hw1]; exact (Fr.refl _ _).setCell (fun _ => one_self dcb) _
      have hR1 := hR.other hb hD.b0 hf1
      have h13 := hD.b13
      have h0 := hD.b0
      have hP1 : Pow w1 := hP.fr hf1 (by have := hD.bsz; omega) (one_ne (by omega))
      have hBl1 : Blk sp w1 := fun k h3 h8 => by
        obtain ⟨cc, ty, hc⟩ := hBl k h3 h8
        by_cases e : (sp k).block = dcb
        · exact ⟨_, _, by rw [e]; exact hb1⟩
        · exact ⟨cc, ty, hf1.at hc (one_ne e)⟩
      have hposL : mL.pos ≤ 8 * (x.data.drop s.ps).length := by
        have := hR.rd.2
        have htop : s.top = 8 * (x.data.drop s.ps).length := by
          obtain ⟨ao, cap, e⟩ := ownsRow_form hR.drow
          unfold RS.top
          rw [e]
        rw [← hR.pos]; omega
      have hnext := Gz.next_of (p := p) hat hps hposL
      have hcall := read_any sp B rb tsb mb (dcb :: K) (x.data.drop s.ps) mL x.tc w1 s t p hp hR1 hP1 (by rw [List.length_append]; omega) hask
      have c11 := hb1.c1
      have HCALL := hide hcall
      have HN := hide hnext
      have HW1 := hide hw1
      have HB1 := hide hb1
      have HF1 := hide hf1
      have HD := hide hD
      have HBL1 := hide hBl1
      have HLIM := hide hlim
      have HLONG := hide hlong
      have HAT := hide hat
      have HPS := hide hps
      have HTL := hide htl
      have HPL := hide hposL
      clear hcall hnext hw1 hb1 hf1 hD hBl1 hlim hlong hat hps htl hposL hR hR1 hb hP1 hrm hpsl hlen hdl
      go_enter Tryz.func25, Tryz.ntmps25
      go_upto_region 7 with fail
      rw [← HW1.out]
      go_wp2_with fail
      refine HCALL.out.mono ?_
      rintro e w2 hran
      obtain ⟨hf2, k, o, q, K1', c', s', hst, hR', hps', hlim', ht', hend⟩ := hran
      rw [HLIM.out] at hst hR' ht' hend
      obtain ⟨hn1, hn2⟩ := HN.out
      have hmet : Gz.metBy (x.data ++ p) x.lim = (k, o) := Gz.metBy_eq (hn2 k o hst)
      have hdcbK : dcb ∈ K1' := ht'.grow.1 dcb (by simp)
      have hb2 := HB1.out.fr hf2 (fun e => e.2 (by simp))
      have hfw2 : Fr (Own B K) w w2 := (HF1.out.mono (fun k _ e => by have e' : k = dcb := e; subst e'; exact ⟨HD.out.b0, HD.out.n0⟩)).trans (hf2.up (fun k hk => by simp [hk]))
      have hK2 : ∀ k, k ∈ K1' ↔ k ∈ dcb :: (K1'.filter fun k => decide (k ≠ dcb)) := fun k => by
        simp only [List.mem_cons, List.mem_filter, decide_eq_true_eq]
        constructor
        · intro h
          by_cases e : k = dcb
          · exact Or.inl e
          · exact Or.inr ⟨h, e⟩
        · rintro (rfl | h)
          · exact hdcbK
          · exact h.1
      have hG2 : Grow K (K1'.filter fun k => decide (k ≠ dcb)) w w2 := by
        refine ⟨fun k hk => List.mem_filter.2 ⟨ht'.grow.1 k (by simp [hk]), decide_eq_true (fun e => HD.out.n0 (e ▸ hk))⟩, fun k hk => ?_⟩
        obtain ⟨h1, h2⟩ := List.mem_filter.1 hk
        have h2 : k ≠ dcb := of_decide_eq_true h2
        rcases ht'.grow.2 k h1 with h | h
        · rcases List.mem_cons.1 h with h | h
          · exact absurd h h2
          · exact Or.inl h
        · exact Or.inr ⟨Nat.le_trans HF1.out.size h.1, h.2⟩
      have hFa : (x.next p).asks = (Gz.final (x.data.drop s.ps ++ p) x.lim mL).asks := by rw [← hn1]; rfl
      have hma : x.at.asks = mL.asks := by rw [← HAT.out]; rfl
      have hmo : x.at.out = mL.out := by rw [← HAT.out]; rfl
      have htc : c' = (x.fed p).tc := by
        obtain ⟨new, e1, e2⟩ := ht'.asks
        show c' = x.tc.asks ((x.next p).asks.drop x.at.asks.length)
        rw [hFa, hma, e1, List.drop_left, e2]
      have hFp := (Gz.final_pos (x.data.drop s.ps ++ p) x.lim mL (by rw [List.length_append]; have := HPL.out; omega)).2
      have hDl : (x.data.drop s.ps ++ p).length ≤ 4000 := by rw [List.length_append, List.length_drop]; have := HLONG.out; rw [List.length_append] at this; omega
      have hasked : c'.asked ≤ x.tc.asked + 32000 := by have := ht'.few; omega
      have hT2 : TabsAt w2 (K1'.filter fun k => decide (k ≠ dcb)) tsb mb (x.fed p).tc := by rw [← htc]; exact hR'.tabs.strike hb2
      have hn0 : dcb ∉ (K1'.filter fun k => decide (k ≠ dcb)) := fun hm => by have := (List.mem_filter.1 hm).2; simp at this
      have hE2 := hR'.env
      have hBl2 : Blk sp w2 := HBL1.out.frB hsp hf2
      have hdat : (x.data.drop s.ps ++ p).drop (q / 8) = (x.data ++ p).drop (s.ps + q / 8) := by rw [← List.drop_append_of_le_length HPS.out, List.drop_drop]
      have hlen2 : (x.data ++ p).length ≤ 4000 := by have := HLONG.out; omega
      have hR2 : Rst sp B rb tsb mb (dcb :: (K1'.filter fun k => decide (k ≠ dcb))) ((x.data ++ p).drop (s.ps + q / 8)) { Gz.final (x.data.drop s.ps ++ p) x.lim mL with out := o, pos := q % 8 } (x.fed p).tc w2 s' := by rw [← hdat, ← htc]; exact hR'.same hK2
      have c21 := hb2.c1
      have hbx := HB1.out
      have HR2 := hide hR2
      have HB2 := hide hb2
      have HT2 := hide hT2
      have HE2 := hide hE2
      have HG2 := hide hG2
      have HFW2 := hide hfw2
      have HN0 := hide hn0
      have HMET := hide hmet
      have HMO := hide hmo
      have HAK : Hid ((x.fed p).tc.asked ≤ x.tc.asked + 32000) := by unfold Hid; rw [← htc]; exact hasked
      have HPS' := hide hps'
      have HN1 := hide hn1
      have HL2 := hide hlen2
      have HBL2 := hide hBl2
      have HLIM' := hide hlim'
      have HFP := hide hFp
      have HOO : Hid (k = 2 → o = (Gz.final (x.data.drop s.ps ++ p) x.lim mL).out) := fun h => by subst h; exact step_short hst
      clear hR2 hb2 hT2 hE2 hG2 hfw2 hn0 hmet hmo hasked hps' hn1 hlen2 hBl2 hlim' hR' ht' hst hK2 hFa hma htc hFp hDl hdat hn2 hdcbK hbx hf2
      rcases hend with ⟨rfl, hq, rfl⟩ | ⟨hk2, hk8, hq, v, n, rfl, hv⟩
      · have hfd : x.feed p = ({ (x.fed p).stop 0 with begun := ((x.next p).pos + 7) / 8 }, o.drop x.at.out.length, 0) := by
          unfold Gz.Dec.feed; rw [if_neg (by rw [hon]; decide), if_neg HLONG.out, HMET.out, if_neg (show ¬ (0 : Nat) = 2 by decide), if_pos rfl]
        have HFD := hide hfd
        have HQ := hide hq
        clear hfd hq
        go_wp2_with fail
        refine (toldAs_nil w2).mono ?_
        rintro e w3 ⟨rfl, hf3⟩
        have hR3 := HR2.out.still hf3
        have hb3 := HB2.out.fr hf3 (no_no _)
        have c31 := hb3.c1
        have c33 := hb3.c3
        have f33 := hb3.fz 3
        have hpos3 : s'.pos = q % 8 := hR3.pos
        have htot3 := hR3.tot
        obtain ⟨nb, hnb⟩ : ∃ nb, nb = s'.ps + (s'.pos + 7) / 8 := ⟨_, rfl⟩
        have HBG : Hid (Calls Tryz.prog 20 #[.pointer (some ⟨rb, 0, none⟩)] w3 fun e w' => e = .returned (.int .i64 (nb : Nat)) ∧ Fr No w3 w') := by unfold Hid; rw [hnb]; exact begunR_any rb s' w3 hR3.rd (by omega) (by omega)
        have hnb2 : nb = ((x.next p).pos + 7) / 8 := by
          rw [hnb, hpos3, HPS'.out, ← HN1.out]
          show s.ps + q / 8 + (q % 8 + 7) / 8 = ((Gz.final (x.data.drop s.ps ++ p) x.lim mL).pos + 8 * s.ps + 7) / 8
          rw [← HQ.out]
          omega
        have hnb4 : nb ≤ 4000 := by
          have h1 := HFP.out
          have h2 := HL2.out
          have h3 := HPS.out
          have h4 := HQ.out
          rw [List.length_append, List.length_drop] at h1
          rw [List.length_append] at h2
          rw [hnb, hpos3, HPS'.out]
          omega
        have HNB2 := hide hnb2
        have HB3 := hide hb3
        clear hnb hnb2 hR3 hb3 hpos3 htot3
        go_wp2_with fail
        refine HBG.out.mono ?_
        rintro e w4 ⟨rfl, hf4⟩
        have hb4 := HB3.out.fr hf4 (no_no _)
        have c43 := hb4.c3
        have f43 := hb4.fz 3
        have c41 := hb4.c1
        obtain ⟨w5, hw5⟩ : ∃ w5, w5 = w4.setCell ⟨dcb, 3, none⟩ (.int .i64 (nb : Nat)) := ⟨_, rfl⟩
        have hb5 : Db w5 dcb tsb (.pointer (some ⟨rb, 0, none⟩)) (4000 - (x.data ++ p).length) nb x.told := by rw [hw5]; exact hb4.s3 _ _ rfl
        have hf5 : Fr (One dcb) w4 w5 := by rw [hw5]; exact (Fr.refl _ _).setCell (fun _ => one_self dcb) _
        have HSTOP := hide (stop_any dcb tsb _ _ _ 0 _ w5 hb5)
        have HB4 := hide hb4
        have HB5 := hide hb5
        have HF5 := hide hf5
        have HW5 := hide hw5
        clear hb4 hb5 hf5 hw5
        go_upto_region 14 with fail
        rw [← HW5.out]
        go_wp2_with fail
        refine HSTOP.out.mono ?_
        rintro e w6 ⟨rfl, hb6, hf6⟩
        have HB6 := hide hb6
        clear hb6
        go_wp2
        go_ret2
        have hfo : Fr (Own B K) w w6 := (HFW2.out.trans ((hf3.trans hf4).of_no)).trans ((HF5.out.trans hf6).mono (fun k _ e => by have e' : k = dcb := e; subst e'; exact ⟨HD.out.b0, HD.out.n0⟩))
        have h13 := HD.out.b13
        have h0 := HD.out.b0
        have hE6 : Env sp w6 := ((HE2.out.fr (hf3.trans hf4) (fun _ _ => no_no _)).fr HF5.out (fun k hk => one_ne (by omega))).fr hf6 (fun k hk => one_ne (by omega))
        have hT6 := (((HT2.out.fr (hf3.trans hf4) (no_no _) (no_no _) (fun _ _ => no_no _)).other HB4.out HF5.out).other HB5.out hf6)
        unfold RanF
        rw [HFD.out, HMO.out]
        refine ⟨rfl, hfo, _, HD.out.mk' HD.out.lim HL2.out (by show ((x.next p).pos + 7) / 8 ≤ 4000; rw [← HNB2.out]; exact hnb4) (by show 0 ≤ 12; omega) hT6 hE6 hfo.size ⟨HG2.out.1, fun k hk => (HG2.out.2 k hk).imp id (fun h => ⟨h.1, Nat.lt_of_lt_of_le h.2 (Nat.le_trans (hf3.trans hf4).size (Nat.le_trans HF5.out.size hf6.size))⟩)⟩ HN0.out (fun _ => ⟨_, Nat.sub_le _ _, by rw [← HNB2.out]; exact HB6.out⟩) (fun h => by cases h), ⟨HG2.out.1, fun k hk => (HG2.out.2 k hk).imp id (fun h => ⟨h.1, Nat.lt_of_lt_of_le h.2 (Nat.le_trans (hf3.trans hf4).size (Nat.le_trans HF5.out.size hf6.size))⟩)⟩, HAK.out⟩
      · have htold := toldAs_any sp w2 v k n HE2.out HBL2.out hv hk2 hk8
        obtain ⟨ty, p', rfl⟩ := hv.iface
        have HT := hide htold
        clear hv htold
        by_cases hk : k = 2
        · subst hk
          have hfd : x.feed p = (x.fed p, o.drop x.at.out.length, 0) := by
            unfold Gz.Dec.feed; rw [if_neg (by rw [hon]; decide), if_neg HLONG.out, HMET.out, if_pos rfl]
          have hq := hq rfl
          have HFD := hide hfd
          have HQ := hide hq
          clear hfd hq hk2 hk8
          go_wp2_with fail
          refine HT.out.mono ?_
          rintro e w3 ⟨rfl, hf3⟩
          go_wp2
          go_ret2
          have hfo : Fr (Own B K) w w3 := HFW2.out.trans hf3.of_no
          have hG3 : Grow K (K1'.filter fun k => decide (k ≠ dcb)) w w3 := ⟨HG2.out.1, fun k hk => (HG2.out.2 k hk).imp id (fun h => ⟨h.1, Nat.lt_of_lt_of_le h.2 hf3.size⟩)⟩
          unfold RanF
          rw [HFD.out, HMO.out]
          refine ⟨rfl, hfo, _, HD.out.mk' HD.out.lim HL2.out HD.out.bg HD.out.tl (HT2.out.fr hf3 (no_no _) (no_no _) (fun _ _ => no_no _)) (HE2.out.fr hf3 (fun _ _ => no_no _)) hfo.size hG3 HN0.out (fun h => by rw [show (x.fed p).on = x.on from rfl, hon] at h; cases h) (fun _ => ⟨rb, s', { Gz.final (x.data.drop s.ps ++ p) x.lim mL with out := o, pos := q % 8 }, HB2.out.fr hf3 (no_no _), ?_, ?_, HLIM'.out.trans HLIM.out, ?_⟩), hG3, HAK.out⟩
          · rw [HPS'.out]
            exact HR2.out.still hf3
          · have hoo : o = (Gz.final (x.data.drop s.ps ++ p) x.lim mL).out := by first | exact HOO.out rfl | exact HOO.out trivial | simpa using HOO.out
            show _ = x.next p
            rw [← HN1.out, HPS'.out]
            unfold Gz.M.by
            rw [hoo]
            congr 1
            show q % 8 + 8 * (s.ps + q / 8) = (Gz.final (x.data.drop s.ps ++ p) x.lim mL).pos + 8 * s.ps
            rw [← HQ.out]
            omega
          · rw [HPS'.out]
            show s.ps + q / 8 ≤ (x.data ++ p).length
            have h1 := HFP.out
            have h2 := HQ.out
            have h3 := HPS.out
            rw [List.length_append, List.length_drop] at h1
            rw [List.length_append]
            omega
        · have hfd : x.feed p = ((x.fed p).stop k, o.drop x.at.out.length, k) := by
            unfold Gz.Dec.feed; rw [if_neg (by rw [hon]; decide), if_neg HLONG.out, HMET.out, if_neg (show ¬ k = 2 from hk), if_neg (show ¬ k = 0 by omega)]
          have hk2b : ((k : Int) == 2) = false := by simp; omega
          have hk0b : ((k : Int) == 0) = false := by simp; omega
          have HFD := hide hfd
          have HKK := hide hk
          clear hfd hq hk
          go_wp2_with fail
          refine HT.out.mono ?_
          rintro e w3 ⟨rfl, hf3⟩
          have hb3 := HB2.out.fr hf3 (no_no _)
          have HSTOP := hide (stop_any dcb tsb _ _ _ k _ w3 hb3)
          have HB3 := hide hb3
          clear hb3
          go_wp2_with fail
          refine HSTOP.out.mono ?_
          rintro e w6 ⟨rfl, hb6, hf6⟩
          have HB6 := hide hb6
          clear hb6
          go_wp2
          go_ret2
          have hfo : Fr (Own B K) w w6 := (HFW2.out.trans hf3.of_no).trans (hf6.mono (fun k _ e => by have e' : k = dcb := e; subst e'; exact ⟨HD.out.b0, HD.out.n0⟩))
          have h13 := HD.out.b13
          have h0 := HD.out.b0
          have hE6 : Env sp w6 := (HE2.out.fr hf3 (fun _ _ => no_no _)).fr hf6 (fun k hk => one_ne (by omega))
          have hT6 := (HT2.out.fr hf3 (no_no _) (no_no _) (fun _ _ => no_no _)).other HB3.out hf6
          have hG6 : Grow K (K1'.filter fun k => decide (k ≠ dcb)) w w6 := ⟨HG2.out.1, fun k hk => (HG2.out.2 k hk).imp id (fun h => ⟨h.1, Nat.lt_of_lt_of_le h.2 (Nat.le_trans hf3.size hf6.size)⟩)⟩
          unfold RanF
          rw [HFD.out, HMO.out]
          exact ⟨rfl, hfo, _, HD.out.mk' HD.out.lim HL2.out HD.out.bg (by show k ≤ 12; omega) hT6 hE6 hfo.size hG6 HN0.out (fun _ => ⟨_, Nat.sub_le _ _, HB6.out⟩) (fun h => by cases h), hG6, HAK.out⟩
end Go.Proofs.YtjjjlilflbddoaaGreatDoor
namespace Go.Proofs.YtjjjlilflbddoaaGreatDoor
open Go.RowKit Go.Maps Go.WideMaps

/-- How many tables a decoder keeps. -/
def clampN (c : Int) : Nat := (min (max c 0) 16).toNat
theorem clampN_le (c : Int) : clampN c ≤ 16 := by unfold clampN; omega

set_option maxHeartbeats 800000 in
theorem newD_any (sp : Nat → Addr) (cache : Int) (w : World) (hE : Env sp w) :
    Calls Tryz.prog 9 #[.int .i64 cache] w fun e w' => e = .returned (.pointer (some ⟨w.heap.size + 2, 0, none⟩)) ∧ DecAt sp w.heap.size (w.heap.size + 2) (w.heap.size + 1) w.heap.size [] (Gz.Dec.new (clampN cache)) w' ∧ Fr No w w' ∧ w'.heap.size = w.heap.size + 3 := by
  have hcl : ((clampN cache : Nat) : Int) = min (max cache 0) 16 := by unfold clampN; omega
  obtain ⟨n, hn⟩ : ∃ n, n = clampN cache := ⟨_, rfl⟩
  have hn16 : n ≤ 16 := by rw [hn]; exact clampN_le _
  rw [← hn] at hcl ⊢
  obtain ⟨wt, hwt⟩ : ∃ wt, wt = (w.alloc (.map #[] 0)).alloc (.cells #[.int .i64 n, .int .i64 0, .int .i64 0, .map (some w.heap.size)] 85) := ⟨_, rfl⟩
  have hft : Fr No w wt := by rw [hwt]; exact ((Fr.refl _ _).alloc _).alloc _
  have hTn : TabsAt wt [] (w.heap.size + 1) w.heap.size (Gz.Tc.new n) := by rw [hwt]; exact tabs_new n w hn16
  have hst : wt.heap.size = w.heap.size + 2 := by rw [hwt, World.size_alloc, World.size_alloc]
  have HNT := hide (newTables_any n w)
  have HWT := hide hwt
  have HST := hide hst
  have HFT := hide hft
  have HTN := hide hTn
  have HCL := hide hcl
  have hsz := hE.size
  have HE := hide hE
  clear hwt hst hft hTn hcl hn hE
  go_enter Tryz.func9, Tryz.ntmps9
  go_wp2_with fail
  rw [← HCL.out]
  refine HNT.out.mono ?_
  rintro e w1 ⟨rfl, hw1⟩
  have hw1' : w1 = wt := hw1.trans HWT.out.symm
  clear hw1
  subst hw1'
  go_wp2
  go_ret
  have hal : Fr No w1 (w1.alloc (.cells #[.pointer (some ⟨w.heap.size + 1, 0, none⟩), .pointer none, .int .i64 0, .int .i64 0, .int .i64 12] 67)) := (Fr.refl _ _).alloc _
  have hb : Db (w1.alloc (.cells #[.pointer (some ⟨w.heap.size + 1, 0, none⟩), .pointer none, .int .i64 0, .int .i64 0, .int .i64 12] 67)) (w.heap.size + 2) (w.heap.size + 1) (.pointer none) 0 0 12 := by
    have := alloc_at w1 (.cells #[.pointer (some ⟨w.heap.size + 1, 0, none⟩), .pointer none, .int .i64 0, .int .i64 0, .int .i64 12] 67)
    rw [HST.out] at this
    exact this
  have hs3 : (w1.alloc (.cells #[.pointer (some ⟨w.heap.size + 1, 0, none⟩), .pointer none, .int .i64 0, .int .i64 0, .int .i64 12] 67)).heap.size = w.heap.size + 3 := by rw [World.size_alloc, HST.out]
  refine ⟨by rw [HST.out]; rfl, ⟨HE.out.fr (HFT.out.trans hal) (fun _ _ => no_no _), hsz, by rw [hs3]; omega, by omega, by omega, Nat.le_refl _, by simp, by simp, by simp, fun k hk => by simp at hk, by show 0 ≤ 6000; omega, by show 0 ≤ 4000; omega, by show 0 ≤ 4000; omega, by show 12 ≤ 12; omega, HTN.out.fr hal (no_no _) (no_no _) (fun _ _ => no_no _), fun _ => ⟨0, by omega, hb⟩, fun h => by cases h⟩, HFT.out.trans hal, hs3⟩

theorem begin_no (dcb : Nat) (l : Int) (w : World) (h : l < 0 ∨ 6000 < l) :
    Calls Tryz.prog 23 #[.pointer (some ⟨dcb, 0, none⟩), .int .i64 l] w fun e w' => e = .returned (.int .i64 11) ∧ w' = w := by
  have HM := hide (may_no l w h)
  clear h
  go_enter Tryz.func23, Tryz.ntmps23
  go_wp2_with (go_at_call 34; refine HM.out.mono ?_; rintro e w' ⟨rfl, hw⟩; obtain rfl := hw.symm)
  go_ret
  exact ⟨rfl, rfl⟩

set_option maxRecDepth 100000 in
set_option maxHeartbeats 800000 in
theorem begin_yes (sp : Nat → Addr) (B dcb tsb mb : Nat) (K : List Nat) (x : Gz.Dec) (l : Nat) (w : World) (hl : l ≤ 6000) (hD : DecAt sp B dcb tsb mb K x w) :
    Calls Tryz.prog 23 #[.pointer (some ⟨dcb, 0, none⟩), .int .i64 l] w fun e w' => e = .returned (.int .i64 0) ∧ DecAt sp B dcb tsb mb K (x.begin l) w' ∧ Fr (One dcb) w w' := by
  obtain ⟨rv, room, hb⟩ : ∃ rv room, Db w dcb tsb rv room x.begun x.told := by
    cases hon : x.on with
    | false => obtain ⟨room, _, h⟩ := hD.off hon; exact ⟨_, room, h⟩
    | true => obtain ⟨rb, s, mL, h, _⟩ := hD.on hon; exact ⟨_, _, h⟩
  have hdl := lt_of hb
  have c0 := hb.c0
  obtain ⟨w1, hw1⟩ : ∃ w1, w1 = w.alloc (.cells (fresh l tsb).cells 82) := ⟨_, rfl⟩
  have hf1 : Fr No w w1 := by rw [hw1]; exact (Fr.refl _ _).alloc _
  have hb1 := hb.fr hf1 (no_no _)
  have c1 := hb1.c1
  have g1 := hb1.fz 1
  obtain ⟨rb, hrb⟩ : ∃ rb, rb = w.heap.size := ⟨_, rfl⟩
  have hb2 := hb1.s1 (.pointer (some ⟨rb, 0, none⟩))
  have c2 := hb2.c2
  have g2 := hb2.fz 2
  have hb3 := hb2.s2 4000 4000 rfl
  have c3 := hb3.c3
  have g3 := hb3.fz 3
  have hb4 := hb3.s3 0 0 rfl
  have c4 := hb4.c4
  have g4 := hb4.fz 4
  have hb5 := hb4.s4 2 2 rfl
  have hR1 : Rst sp B rb tsb mb (dcb :: K) [] Gz.M.start x.tc w1 (fresh l tsb) := by
    rw [hw1, hrb]
    have hne1 : tsb ≠ dcb := fun e => by have h2 := hD.tabs.blk; unfold Tb at h2; rw [e, hb] at h2; injection h2 with h2; injection h2 with _ h2; exact absurd h2 (by decide)
    have hne2 : mb ≠ dcb := fun e => by obtain ⟨D, ⟨es, clock, hb2, _⟩, _⟩ := hD.tabs.map; rw [e, hb] at hb2; simp at hb2
    refine rst_fresh hD.env (hD.tabs.sub (fun k hk => by simp [hk])) hD.b13 hD.bsz (fun k hk => ?_) hl hD.b1 hD.b2 ?_ ?_
    · rcases List.mem_cons.1 hk with rfl | hk
      · exact hdl
      · exact hD.klt k hk
    · simp only [List.mem_cons, not_or]; exact ⟨hne1, hD.n1⟩
    · simp only [List.mem_cons, not_or]; exact ⟨hne2, hD.n2⟩
  have HM := hide (may_yes l w hl)
  have HNR := hide (newReader_any l tsb w)
  have HW1 := hide hw1
  have HRB := hide hrb
  have HB1 := hide hb1
  have HB5 := hide hb5
  have HR1 := hide hR1
  have HD := hide hD
  have HF1 := hide hf1
  clear hw1 hrb hb1 hb2 hb3 hb4 hb5 hR1 hD hf1 hb
  go_enter Tryz.func23, Tryz.ntmps23
  go_wp2_with (go_at_call 34; refine HM.out.mono ?_; rintro e w' ⟨rfl, hw⟩; obtain rfl := hw.symm)
  refine HNR.out.mono ?_
  rintro e w2 ⟨rfl, hw2⟩
  have hw2' : w2 = w1 := hw2.trans HW1.out.symm
  clear hw2
  subst hw2'
  rw [← HRB.out]
  go_wp2
  go_ret
  have hfd : Fr (One dcb) w2 ((((w2.setCell ⟨dcb, 1, none⟩ (.pointer (some ⟨rb, 0, none⟩))).setCell ⟨dcb, 2, none⟩ (.int .i64 4000)).setCell ⟨dcb, 3, none⟩ (.int .i64 0)).setCell ⟨dcb, 4, none⟩ (.int .i64 2)) := ((((Fr.refl _ _).setCell (fun _ => one_self dcb) _).setCell (fun _ => one_self dcb) _).setCell (fun _ => one_self dcb) _).setCell (fun _ => one_self dcb) _
  have hfo := (HF1.out.of_no (T := One dcb)).trans hfd
  have h13 := HD.out.b13
  have h0 := HD.out.b0
  refine ⟨rfl, ⟨HD.out.env.fr hfo (fun k hk => one_ne (by omega)), h13, Nat.le_trans HD.out.bsz hfo.size, h0, HD.out.b1, HD.out.b2, HD.out.n0, HD.out.n1, HD.out.n2, fun k hk => Nat.lt_of_lt_of_le (HD.out.klt k hk) hfo.size, hl, by show 0 ≤ 4000; omega, by show 0 ≤ 4000; omega, by show 2 ≤ 12; omega, (HD.out.tabs.fr HF1.out (no_no _) (no_no _) (fun _ _ => no_no _)).other HB1.out hfd, fun h => (by cases h), fun _ => ⟨rb, fresh l tsb, Gz.M.start, HB5.out, HR1.out.other HB1.out h0 hfd, ?_, rfl, Nat.zero_le _⟩⟩, hfo⟩
  show Gz.M.start.by (8 * 0) = Gz.final [] l Gz.M.start
  have : Gz.step [] l Gz.M.start = .error (2, []) := by rfl
  rw [Gz.final_bad this]
  rfl

theorem end_any (dcb tsb room begun told : Nat) (rv : Value) (w : World) (h : Db w dcb tsb rv room begun told) :
    Calls Tryz.prog 27 #[.pointer (some ⟨dcb, 0, none⟩)] w fun e w' => e = .returned (.tuple #[.int .i64 begun, .int .i64 told]) ∧ Fr No w w' := by
  have c3 := h.c3
  have c4 := h.c4
  go_enter Tryz.func27, Tryz.ntmps27
  go_wp2
  go_quiet (fail)
  go_wp2
  go_ret2
  exact ⟨rfl, (Fr.refl _ _).drewN _⟩
theorem madeT_any (tsb most made asked mb : Nat) (w : World) (h : Tb w tsb most made asked mb) :
    Calls Tryz.prog 31 #[.pointer (some ⟨tsb, 0, none⟩)] w fun e w' => e = .returned (.int .i64 made) ∧ w' = w := by
  have c1 := h.c1
  go_enter Tryz.func31, Tryz.ntmps31
  go_wp2
  go_ret
  exact ⟨rfl, rfl⟩
theorem made_any (dcb tsb room begun told most made asked mb : Nat) (rv : Value) (w : World) (hb : Db w dcb tsb rv room begun told) (h : Tb w tsb most made asked mb) :
    Calls Tryz.prog 12 #[.pointer (some ⟨dcb, 0, none⟩)] w fun e w' => e = .returned (.int .i64 made) ∧ w' = w := by
  have c0 := hb.c0
  have HC := hide (madeT_any tsb most made asked mb w h)
  go_enter Tryz.func12, Tryz.ntmps12
  go_wp2_with fail
  refine HC.out.mono ?_
  rintro e w' ⟨rfl, hw⟩
  obtain rfl := hw.symm
  go_wp2
  go_ret
  exact ⟨rfl, rfl⟩
end Go.Proofs.YtjjjlilflbddoaaGreatDoor
