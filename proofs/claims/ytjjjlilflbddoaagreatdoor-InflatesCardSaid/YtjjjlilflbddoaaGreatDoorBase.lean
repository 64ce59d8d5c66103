import Derived.Test.YtjjjlilflbddoaaGreatDoorChecked
import Derived.Test.YtjjjlilflbddoaaGreatDoorQPure
import Derived.Test.YtjjjlilflbddoaaGreatDoorBase0
import Derived.WalkKit
import Derived.BigQuiet
import Derived.Deep.QuietTactic
import Derived.Deep.RegionWith
/-
  Words on worlds: what a call leaves as it was ('Fr'), the reader's block ('Rd'), bytes in memory.
-/
namespace Go.Proofs.YtjjjlilflbddoaaGreatDoor
open Go.RowKit

theorem m33 : Tryz.prog.underlying 55 = some (.interface (Tryz.prog.methodsAt 55)) := by kernel_rfl
theorem neq_err (u : TypeId) (x : Value) (w : World) : (binOp .neq 55 (.iface u x) .nilIface).run Tryz.prog w = .ok (.bool true) w := run_neq_held_nil _ 55 u x m33
theorem neq_nil (w : World) : (binOp .neq 55 .nilIface .nilIface).run Tryz.prog w = .ok (.bool false) w := run_neq_nil_nil _ 55 m33
/-- The reader, as it lies in memory. -/
structure RS where
  dv : Value
  ps : Nat
  pos : Nat
  bg : Nat
  lim : Nat
  ov : Value
  pl : Nat
  la : Bool
  le : Nat
  tb : Value
  ts : Value

/-- No number of a bit is greater. -/
def capB (n : Nat) : Nat := min n 40000
theorem capB_le (n : Nat) : capB n ≤ 40000 := by unfold capB; omega
theorem capB_id {n : Nat} (h : n ≤ 40000) : capB n = n := by unfold capB; omega

def RS.cells (s : RS) : Array Value := #[s.dv, .int .i64 s.ps, .int .i64 s.pos, .int .i64 (capB s.bg), .int .i64 s.lim, s.ov, .int .i64 s.pl, .bool s.la, .int .i64 s.le, s.tb, s.ts]
/-- How many bits the data have. -/
def RS.top (s : RS) : Nat := match s.dv with
  | .slice _ n _ => 8 * n
  | _ => 0
/-- The reader's block; no bit behind the data is taken next. -/
def Rd (w : World) (rb : Nat) (s : RS) : Prop := w.heap[rb]? = some (.cells s.cells 82 (0, 0)) ∧ s.pos ≤ s.top

section
variable {w : World} {rb : Nat} {s : RS}
theorem Rd.lt (h : Rd w rb s) : rb < w.heap.size := lt_of h.1
theorem Rd.c0 (h : Rd w rb s) : w.cell? ⟨rb, 0, none⟩ = some s.dv := by rw [cell_of h.1]; rfl
theorem Rd.c1 (h : Rd w rb s) : w.cell? ⟨rb, 2, none⟩ = some (.int .i64 s.pos) := by rw [cell_of h.1]; rfl
theorem Rd.c2 (h : Rd w rb s) : w.cell? ⟨rb, 3, none⟩ = some (.int .i64 (capB s.bg)) := by rw [cell_of h.1]; rfl
theorem Rd.c3 (h : Rd w rb s) : w.cell? ⟨rb, 4, none⟩ = some (.int .i64 s.lim) := by rw [cell_of h.1]; rfl
theorem Rd.c4 (h : Rd w rb s) : w.cell? ⟨rb, 5, none⟩ = some s.ov := by rw [cell_of h.1]; rfl
theorem Rd.c5 (h : Rd w rb s) : w.cell? ⟨rb, 6, none⟩ = some (.int .i64 s.pl) := by rw [cell_of h.1]; rfl
theorem Rd.c6 (h : Rd w rb s) : w.cell? ⟨rb, 7, none⟩ = some (.bool s.la) := by rw [cell_of h.1]; rfl
theorem Rd.c7 (h : Rd w rb s) : w.cell? ⟨rb, 8, none⟩ = some (.int .i64 s.le) := by rw [cell_of h.1]; rfl
theorem Rd.c8 (h : Rd w rb s) : w.cell? ⟨rb, 9, none⟩ = some s.tb := by rw [cell_of h.1]; rfl
theorem Rd.cp (h : Rd w rb s) : w.cell? ⟨rb, 1, none⟩ = some (.int .i64 s.ps) := by rw [cell_of h.1]; rfl
theorem Rd.ct (h : Rd w rb s) : w.cell? ⟨rb, 10, none⟩ = some s.ts := by rw [cell_of h.1]; rfl
theorem Rd.fz (h : Rd w rb s) (i : Nat) : w.frozen? ⟨rb, i, none⟩ = false := frozen_of h.1 i
theorem Rd.s1 (h : Rd w rb s) (z : Int) (n : Nat) (e : z = n) (hn : n ≤ s.top) : Rd (w.setCell ⟨rb, 2, none⟩ (.int .i64 z)) rb { s with pos := n } := by subst e; unfold Rd; rw [set_of h.1]; exact ⟨rfl, hn⟩
theorem Rd.s2 (h : Rd w rb s) (z : Int) (n : Nat) (e : z = n) (hn : n ≤ 40000) : Rd (w.setCell ⟨rb, 3, none⟩ (.int .i64 z)) rb { s with bg := n } := by
  subst e
  have : ({ s with bg := n } : RS).cells = s.cells.setIfInBounds 3 (.int .i64 n) := by unfold RS.cells; rw [capB_id hn]; rfl
  unfold Rd; rw [set_of h.1, this]; exact ⟨rfl, h.2⟩
theorem Rd.s4 (h : Rd w rb s) (v : Value) : Rd (w.setCell ⟨rb, 5, none⟩ v) rb { s with ov := v } := by unfold Rd; rw [set_of h.1]; exact ⟨rfl, h.2⟩
theorem Rd.s5 (h : Rd w rb s) (z : Int) (n : Nat) (e : z = n) : Rd (w.setCell ⟨rb, 6, none⟩ (.int .i64 z)) rb { s with pl := n } := by subst e; unfold Rd; rw [set_of h.1]; exact ⟨rfl, h.2⟩
theorem Rd.s6 (h : Rd w rb s) (b : Bool) : Rd (w.setCell ⟨rb, 7, none⟩ (.bool b)) rb { s with la := b } := by unfold Rd; rw [set_of h.1]; exact ⟨rfl, h.2⟩
theorem Rd.s7 (h : Rd w rb s) (z : Int) (n : Nat) (e : z = n) : Rd (w.setCell ⟨rb, 8, none⟩ (.int .i64 z)) rb { s with le := n } := by subst e; unfold Rd; rw [set_of h.1]; exact ⟨rfl, h.2⟩
theorem Rd.s8 (h : Rd w rb s) (v : Value) : Rd (w.setCell ⟨rb, 9, none⟩ v) rb { s with tb := v } := by unfold Rd; rw [set_of h.1]; exact ⟨rfl, h.2⟩
theorem Rd.drewN (h : Rd w rb s) (q : Nat) : Rd (w.drewN q) rb s := h
theorem Rd.alloc (h : Rd w rb s) (o : Obj) : Rd (w.alloc o) rb s := ⟨alloc_old h.1, h.2⟩
theorem Rd.fr {S : Nat → Prop} {w' : World} (h : Rd w rb s) (f : Fr S w w') (hs : ¬ S rb) : Rd w' rb s := ⟨f.at h.1 hs, h.2⟩
end

/-- A slice of bytes that holds the list; its bytes, where there are any, lie in block db. -/
def Dat (w : World) (db : Nat) (v : Value) (d : List UInt8) : Prop :=
  ∃ a cap, v = .slice a d.length cap ∧ ∀ i, i < d.length → a = some ⟨db, 0, none⟩ ∧ db < w.heap.size ∧ w.cell? ⟨db, i, none⟩ = some (.int .u8 (d.getD i 0).toNat)

theorem Dat.fr {S : Nat → Prop} {w w' : World} {db : Nat} {v : Value} {d : List UInt8} (h : Dat w db v d) (f : Fr S w w') (hs : ¬ S db) : Dat w' db v d := by
  obtain ⟨a, cap, rfl, hc⟩ := h
  refine ⟨a, cap, rfl, fun i hi => ?_⟩
  obtain ⟨h1, h2, h3⟩ := hc i hi
  exact ⟨h1, Nat.lt_of_lt_of_le h2 f.size, (f.cell (p := ⟨db, i, none⟩) h2 hs).trans h3⟩

theorem Dat.top {w : World} {db : Nat} {s : RS} {d : List UInt8} (h : Dat w db s.dv d) : s.top = 8 * d.length := by
  obtain ⟨a, cap, e, _⟩ := h
  unfold RS.top
  rw [e]

/-- What was met is told by this panic: the bits do not suffice. -/
def ShortP (w : World) (e : Ending) : Prop := ∃ p n, e = .panicked [{ v := .iface 91 (.pointer (some ⟨p, 0, none⟩)), recovered := false }] ∧ w.heap[p]? = some (.cells #[.int .i64 n] 243 (0, 0))

/-- The variable of an error's number. -/
def glob : Nat → Nat
  | 3 => 0
  | 4 => 1
  | 5 => 2
  | 6 => 3
  | 7 => 4
  | 9 => 5
  | 10 => 6
  | _ => 12

/-- What the package-level variables hold; sp: where the errors lie. -/
structure Env (sp : Nat → Addr) (w : World) : Prop where
  size : 16 ≤ w.heap.size
  err : ∀ k, 3 ≤ k → k ≤ 10 → w.cell? ⟨glob k, 0, none⟩ = some (.iface 248 (.pointer (some (sp k))))
  inj : ∀ j k, 3 ≤ j → j ≤ 10 → 3 ≤ k → k ≤ 10 → sp j = sp k → j = k
  tell : ∀ i, i < 19 → w.cell? ⟨8, i, none⟩ = some (.int .i64 (Gz.order.getD i 0 : Nat))
  len : ∀ i, i < 29 → w.cell? ⟨9, i, none⟩ = some (.int .i64 (Gz.lenFrom.getD i 0 : Nat))
  far : ∀ i, i < 30 → w.cell? ⟨10, i, none⟩ = some (.int .i64 (Gz.distFrom.getD i 0 : Nat))
  typ : w.cell? ⟨7, 0, none⟩ = some (.iface 159 (.agg #[.pointer (some ⟨16, 55, none⟩)]))

theorem glob_lt (k : Nat) : glob k < 16 := by unfold glob; split <;> omega

theorem Env.fr {S : Nat → Prop} {sp : Nat → Addr} {w w' : World} (h : Env sp w) (f : Fr S w w') (hs : ∀ k, k < 16 → ¬ S k) : Env sp w' := by
  have hz := h.size
  refine ⟨Nat.le_trans h.size f.size, fun k a b => ?_, h.inj, fun i a => ?_, fun i a => ?_, fun i a => ?_, ?_⟩
  · have := glob_lt k; rw [f.cell (p := ⟨glob k, 0, none⟩) (by show glob k < _; omega) (hs _ (glob_lt k))]; exact h.err k a b
  · rw [f.cell (p := ⟨8, i, none⟩) (by show 8 < _; omega) (hs _ (by show 8 < _; omega))]; exact h.tell i a
  · rw [f.cell (p := ⟨9, i, none⟩) (by show 9 < _; omega) (hs _ (by show 9 < _; omega))]; exact h.len i a
  · rw [f.cell (p := ⟨10, i, none⟩) (by show 10 < _; omega) (hs _ (by show 10 < _; omega))]; exact h.far i a
  · rw [f.cell (p := ⟨7, 0, none⟩) (by show 7 < _; omega) (hs _ (by show 7 < _; omega))]; exact h.typ

/-- An error that wraps what number k says, n wraps deep. -/
def Err (sp : Nat → Addr) (w : World) (v : Value) (k : Nat) : Nat → Prop
  | 0 => (3 ≤ k ∧ k ≤ 8 ∧ v = .iface 248 (.pointer (some (sp k)))) ∨ (k = 2 ∧ ∃ (p : Nat) (m : Int), w.heap[p]? = some (.cells #[.int .i64 m] 243 (0, 0)) ∧ v = .iface 91 (.pointer (some ⟨p, 0, none⟩)))
  | n + 1 => ∃ (p : Nat) (t : ByteArray) (v' : Value), w.heap[p]? = some (.cells #[.string t, v'] 90 (0, 0)) ∧ v = .iface 87 (.pointer (some ⟨p, 0, none⟩)) ∧ Err sp w v' k n
section
variable {sp : Nat → Addr} {w : World}
theorem Err.sent (k : Nat) (h3 : 3 ≤ k) (h8 : k ≤ 8) : Err sp w (.iface 248 (.pointer (some (sp k)))) k 0 := .inl ⟨h3, h8, rfl⟩
theorem Err.short (p : Nat) (n : Int) (h : w.heap[p]? = some (.cells #[.int .i64 n] 243 (0, 0))) : Err sp w (.iface 91 (.pointer (some ⟨p, 0, none⟩))) 2 0 := .inr ⟨rfl, p, n, h, rfl⟩
theorem Err.fault (p : Nat) (t : ByteArray) (v : Value) (k n : Nat) (h : w.heap[p]? = some (.cells #[.string t, v] 90 (0, 0))) (he : Err sp w v k n) : Err sp w (.iface 87 (.pointer (some ⟨p, 0, none⟩))) k (n + 1) := ⟨p, t, v, h, rfl, he⟩
/-- By the three ways. -/
theorem Err.ways {motive : ∀ (v : Value) (k n : Nat), Err sp w v k n → Prop} (sent : ∀ (k : Nat) (h3 : 3 ≤ k) (h8 : k ≤ 8), motive _ k 0 (.sent k h3 h8))
    (short : ∀ (p : Nat) (n : Int) (h : w.heap[p]? = some (.cells #[.int .i64 n] 243 (0, 0))), motive _ 2 0 (.short p n h))
    (fault : ∀ (p : Nat) (t : ByteArray) (v : Value) (k n : Nat) (h : w.heap[p]? = some (.cells #[.string t, v] 90 (0, 0))) (he : Err sp w v k n), motive v k n he → motive _ k (n + 1) (.fault p t v k n h he)) :
    ∀ {v : Value} {k n : Nat} (h : Err sp w v k n), motive v k n h := by
  intro v k n
  induction n generalizing v with
  | zero =>
    rintro (⟨h3, h8, rfl⟩ | ⟨rfl, p, m, hp, rfl⟩)
    · exact sent k h3 h8
    · exact short p m hp
  | succ n ih =>
    rintro ⟨p, t, v', hp, rfl, he⟩
    exact fault p t v' k n hp he (ih he)
end

theorem Err.fr {sp : Nat → Addr} {w w' : World} {v : Value} {k n : Nat} (h : Err sp w v k n) (f : Fr No w w') : Err sp w' v k n := by
  induction h using Err.ways with
  | sent k h3 h8 => exact .sent k h3 h8
  | short p n h => exact .short p n (f.at h (no_no _))
  | fault p t v k n h _ ih => exact .fault p t v k n (f.at h (no_no _)) ih

/-- Also where the reader alone is written: it is none of the errors' blocks. -/
theorem Err.frOne {sp : Nat → Addr} {w w' : World} {rb : Nat} {s : RS} {v : Value} {k n : Nat} (h : Err sp w v k n) (hr : Rd w rb s) (f : Fr (One rb) w w') : Err sp w' v k n := by
  induction h using Err.ways with
  | sent k h3 h8 => exact .sent k h3 h8
  | short p n h => exact .short p n (f.at h (fun e => by have e' : p = rb := e; subst e'; have hr' : w.heap[p]? = _ := hr.1; rw [h] at hr'; simp at hr'))
  | fault p t v k n h _ ih => exact .fault p t v k n (f.at h (fun e => by have e' : p = rb := e; subst e'; have hr' : w.heap[p]? = _ := hr.1; rw [h] at hr'; simp at hr')) ih

/-- How a reading part that writes but the reader's place comes to its end. -/
def Ran {α : Type} (sp : Nat → Addr) (w : World) (rb : Nat) (s : RS) (okv : α → Value) (badv : Value → Value) (r : Gz.Out α) (e : Ending) (w' : World) : Prop :=
  Fr (One rb) w w' ∧ match r with
  | .ok (a, q) => e = .returned (okv a) ∧ Rd w' rb { s with pos := q }
  | .error k => (∃ q, Rd w' rb { s with pos := q }) ∧ ((k = 2 ∧ ShortP w' e) ∨ (3 ≤ k ∧ k ≤ 8 ∧ ∃ v n, e = .returned (badv v) ∧ Err sp w' v k n))

/-- A code in memory, its symbols in block sb. -/
structure CodeAt (w : World) (cb co sb : Nat) (c : Gz.Code) : Prop where
  lt : cb < w.heap.size
  count : ∀ i, i < 16 → w.cell? ⟨cb, co + i, none⟩ = some (.int .i64 (c.count.getD i 0 : Nat))
  syms : ∃ a cap, w.cell? ⟨cb, co + 16, none⟩ = some (.slice a c.symbols.length cap) ∧ ∀ j, j < c.symbols.length → a = some ⟨sb, 0, none⟩ ∧ sb < w.heap.size ∧ w.cell? ⟨sb, j, none⟩ = some (.int .i64 (c.symbols.getD j 0 : Nat))
  longest : w.cell? ⟨cb, co + 17, none⟩ = some (.int .i64 c.longest)

theorem CodeAt.fr {S : Nat → Prop} {w w' : World} {cb co sb : Nat} {c : Gz.Code} (h : CodeAt w cb co sb c) (f : Fr S w w') (h1 : ¬ S cb) (h2 : ¬ S sb) : CodeAt w' cb co sb c := by
  refine ⟨Nat.lt_of_lt_of_le h.lt f.size, fun i hi => (f.cell (p := ⟨cb, co + i, none⟩) h.lt h1).trans (h.count i hi), ?_, (f.cell (p := ⟨cb, co + 17, none⟩) h.lt h1).trans h.longest⟩
  obtain ⟨a, cap, ha, hs⟩ := h.syms
  refine ⟨a, cap, (f.cell (p := ⟨cb, co + 16, none⟩) h.lt h1).trans ha, fun j hj => ?_⟩
  obtain ⟨e1, e2, e3⟩ := hs j hj
  exact ⟨e1, Nat.lt_of_lt_of_le e2 f.size, (f.cell (p := ⟨sb, j, none⟩) e2 h2).trans e3⟩

end Go.Proofs.YtjjjlilflbddoaaGreatDoor
