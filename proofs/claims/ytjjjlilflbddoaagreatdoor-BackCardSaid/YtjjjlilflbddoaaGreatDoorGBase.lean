import Derived.Test.YtjjjlilflbddoaaGreatDoorChecked
import Derived.Test.YtjjjlilflbddoaaGreatDoorGPure
import Derived.WalkKit
import Derived.BigQuiet
import Derived.Deep.QuietTactic
import Derived.Deep.RegionWith
import Derived.Deep.AppendLies
import Derived.Deep.DeepCutAuto
import Derived.Deep.MidRow
import Derived.Deep.OwnRows
namespace Go.Proofs.YtjjjlilflbddoaaGreatDoor
open Go.RowKit

theorem hide {p : Prop} (h : p) : Hid p := h
theorem ret_int {k : IntKind} {a b : Int} (h : a = b) : Ending.returned (.int k a) = .returned (.int k b) := by rw [h]
theorem ret_two {a b a' b' : Value} (h1 : a = a') (h2 : b = b') : Ending.returned (.tuple #[a, b]) = .returned (.tuple #[a', b']) := by rw [h1, h2]
theorem ret_one {a a' : Value} (h1 : a = a') : Ending.returned a = .returned a' := by rw [h1]
/-- All blocks but those of S are as they were; none has gone. -/
structure Fr (S : Nat → Prop) (w w' : World) : Prop where
  os : w'.os = w.os
  tape : w'.tape = w.tape
  output : w'.output = w.output
  size : w.heap.size ≤ w'.heap.size
  block : ∀ k, k < w.heap.size → ¬ S k → w'.heap[k]? = w.heap[k]?
def No : Nat → Prop := fun _ => False
def One (b : Nat) : Nat → Prop := fun k => k = b
theorem one_self (b : Nat) : One b b := rfl
theorem one_ne {a b : Nat} (h : a ≠ b) : ¬ One b a := h
theorem no_no (a : Nat) : ¬ No a := fun h => h
theorem Fr.refl (S : Nat → Prop) (w : World) : Fr S w w := ⟨rfl, rfl, rfl, Nat.le_refl _, fun _ _ _ => rfl⟩
theorem Fr.trans {S : Nat → Prop} {a b c : World} (h : Fr S a b) (k : Fr S b c) : Fr S a c :=
  ⟨k.os.trans h.os, k.tape.trans h.tape, k.output.trans h.output, Nat.le_trans h.size k.size, fun i hi hs => (k.block i (Nat.lt_of_lt_of_le hi h.size) hs).trans (h.block i hi hs)⟩
theorem Fr.mono {S T : Nat → Prop} {w w' : World} (h : Fr S w w') (hs : ∀ k, k < w.heap.size → S k → T k) : Fr T w w' :=
  ⟨h.os, h.tape, h.output, h.size, fun k hk ht => h.block k hk (fun s => ht (hs k hk s))⟩
theorem Fr.of_no {T : Nat → Prop} {w w' : World} (h : Fr No w w') : Fr T w w' := h.mono (fun _ _ h => h.elim)
theorem Fr.cell {S : Nat → Prop} {w w' : World} (h : Fr S w w') {p : Addr} (hp : p.block < w.heap.size) (hs : ¬ S p.block) : w'.cell? p = w.cell? p := World.cell?_of_block (w := w) (h.block p.block hp hs)
theorem Fr.frozen {S : Nat → Prop} {w w' : World} (h : Fr S w w') {p : Addr} (hp : p.block < w.heap.size) (hs : ¬ S p.block) : w'.frozen? p = w.frozen? p := World.frozen?_of_block (w := w) (h.block p.block hp hs)
theorem Fr.at {S : Nat → Prop} {w w' : World} (h : Fr S w w') {k : Nat} {o : Obj} (hk : w.heap[k]? = some o) (hs : ¬ S k) : w'.heap[k]? = some o :=
  (h.block k (by rcases Nat.lt_or_ge k w.heap.size with h | h; exact h; simp [Array.getElem?_eq_none h] at hk) hs).trans hk
theorem Fr.drewN {S : Nat → Prop} {a w : World} (h : Fr S a w) (q : Nat) : Fr S a (w.drewN q) := ⟨h.os, h.tape, h.output, h.size, h.block⟩
theorem Fr.drew {S : Nat → Prop} {a w : World} (h : Fr S a w) : Fr S a w.drew := ⟨h.os, h.tape, h.output, h.size, h.block⟩
theorem Fr.alloc {S : Nat → Prop} {a w : World} (h : Fr S a w) (o : Obj) : Fr S a (w.alloc o) :=
  h.trans ⟨rfl, rfl, rfl, by simp, fun k hk _ => Below.heap_alloc _ _ _ hk⟩
theorem Fr.setCell {S : Nat → Prop} {a w : World} (h : Fr S a w) {p : Addr} (hp : p.block < a.heap.size → S p.block) (u : Value) : Fr S a (w.setCell p u) := by
  refine ⟨h.os, h.tape, h.output, by simp [World.setCell]; exact h.size, fun k hk hs => ?_⟩
  have hne : k ≠ p.block := fun e => hs (e ▸ hp (e ▸ hk))
  rw [Below.heap_setCell _ _ _ _ hne]; exact h.block k hk hs
theorem Fr.below {S : Nat → Prop} {B : Nat} {w w' : World} (h : Fr S w w') (hB : B ≤ w.heap.size) (hs : ∀ k, S k → B ≤ k) : Below B w w' :=
  ⟨h.os, h.tape, h.output, h.size, fun k hk => h.block k (by omega) (fun s => by have := hs k s; omega)⟩
theorem cell_of {w : World} {b : Nat} {c : Array Value} {t : TypeId} {z : Nat × Nat} (h : w.heap[b]? = some (.cells c t z)) (i : Nat) : w.cell? ⟨b, i, none⟩ = c[i]? := by
  simp [World.cell?, h]
theorem frozen_of {w : World} {b : Nat} {c : Array Value} {t : TypeId} (h : w.heap[b]? = some (.cells c t (0, 0))) (i : Nat) : w.frozen? ⟨b, i, none⟩ = false := by
  simp [World.frozen?, h]
theorem lt_of {w : World} {b : Nat} {o : Obj} (h : w.heap[b]? = some o) : b < w.heap.size := by
  rcases Nat.lt_or_ge b w.heap.size with h' | h'
  · exact h'
  · simp [Array.getElem?_eq_none h'] at h
theorem set_of {w : World} {b : Nat} {c : Array Value} {t : TypeId} {z : Nat × Nat} (h : w.heap[b]? = some (.cells c t z)) (i : Nat) (v : Value) : (w.setCell ⟨b, i, none⟩ v).heap[b]? = some (.cells (c.setIfInBounds i v) t z) := by
  simp only [World.setCell, Array.getElem?_modify]; simp [h]
theorem set_other {w : World} {b k : Nat} (i : Nat) (v : Value) (h : k ≠ b) : (w.setCell ⟨b, i, none⟩ v).heap[k]? = w.heap[k]? := Below.heap_setCell _ _ _ _ h
theorem alloc_at (w : World) (o : Obj) : (w.alloc o).heap[w.heap.size]? = some o := by show (w.heap.push o)[w.heap.size]? = some o; simp
theorem alloc_old {w : World} {b : Nat} {o o' : Obj} (h : w.heap[b]? = some o) : (w.alloc o').heap[b]? = some o := (Below.heap_alloc _ _ _ (lt_of h)).trans h
theorem bodyPost_panic {P : Program} {fn : Func} {R : Ending → World → Prop} {chain : List PanicEntry} {a : Act} {w : World} (hd : a.defers = []) (h : R (.panicked chain) w) : bodyPost P fn R (.panic chain) a w := ⟨hd, h⟩
theorem wraps_i64 (n : Int) (h₀ : 0 ≤ n) (h₁ : n < 2 ^ 62) : IntKind.i64.wrap n = n := by rw [IntKind.wrap_i64]; omega
theorem wrap64_id (n : Int) (h₀ : 0 ≤ n) (h₁ : n < 2 ^ 62) : wrap64 n = n := by unfold wrap64; omega
/-- A byte as it lies in memory. -/
def bv (c : UInt8) : Value := .int .u8 c.toNat
theorem Fr.grown {S : Nat → Prop} {a w w' : World} {row : Option Nat} (h : Fr S a w) (hg : w.grownBy w' row) (hr : ∀ k, row = some k → k < a.heap.size → S k) : Fr S a w' := by
  refine ⟨hg.os.trans h.os, hg.tape.trans h.tape, hg.output.trans h.output, Nat.le_trans h.size hg.size, fun k hk hs => ?_⟩
  have := h.size
  rw [hg.block k (by omega) (fun e => hs (hr k e.symm hk))]
  exact h.block k hk hs
theorem ownsRow_fr {S : Nat → Prop} {w w' : World} {base : Nat} {e : TypeId} {size : Nat} {v : Value} {n : Nat} {xs : List Value} (h : w.ownsRow base e size v n xs) (f : Fr S w w') (hs : ∀ g, v.ownBlock = some g → ¬ S g) : w'.ownsRow base e size v n xs := by
  refine ⟨h.1, ?_⟩
  rcases h.2 with h2 | ⟨g, cap, cur, hv, hg, hh, r⟩
  · exact Or.inl h2
  · exact Or.inr ⟨g, cap, cur, hv, hg, f.at hh (hs g (by rw [hv]; rfl)), r⟩
/-- What the call may write: from B on all but K. -/
def Own (B : Nat) (K : List Nat) : Nat → Prop := fun k => B ≤ k ∧ k ∉ K
def lenOf : Value → Nat
  | .slice _ n _ => n
  | _ => 0
theorem ownsRow_form {w : World} {B n : Nat} {v : Value} {xs : List Value} (h : w.ownsRow B 5 1 v n xs) : ∃ ao cap, v = .slice ao n cap := by
  rcases h.2 with ⟨h, h0⟩ | ⟨g, cap, cur, h, _⟩
  · exact ⟨none, 0, by rw [h, h0]⟩
  · exact ⟨_, _, h⟩
theorem ownsRow_base {w : World} {B n k : Nat} {v : Value} {xs : List Value} (h : w.ownsRow B 5 1 v n xs) (hk : v.ownBlock = some k) : B ≤ k := by
  rcases h.2 with ⟨h, h0⟩ | ⟨g, cap, cur, h, hb, _⟩
  · rw [h] at hk; cases hk
  · rw [h] at hk; simp [Value.ownBlock] at hk; omega
theorem grown_frNo {w w' : World} (hg : w.grownBy w' none) : Fr No w w' := (Fr.refl _ _).grown hg (fun k h => by cases h)
def iv (n : Nat) : Value := .int .i64 n
theorem heap_of_set {w w' : World} {b : Nat} {S : Nat → Prop} (h : Fr S w w') (hb : w.heap.size ≤ b) (i : Nat) (v : Value) : Fr S w (w'.setCell ⟨b, i, none⟩ v) := h.setCell (fun e => by have e' : b < w.heap.size := e; omega) v
def ivs (l : List Nat) : Array Value := (l.map iv).toArray
theorem ivs_get {l : List Nat} {i : Nat} (h : i < l.length) : (ivs l)[i]? = some (.int .i64 (l.getD i 0 : Nat)) := by simp [ivs, iv, List.getD, h]
theorem ivs_set {l : List Nat} {i x : Nat} : (ivs l).setIfInBounds i (.int .i64 x) = ivs (l.set i x) := by simp [ivs, List.map_set, iv]
theorem made_zero (n : Nat) : madeCells #[.int .i64 0] n = ivs (List.replicate n 0) := by
  apply Array.ext
  · simp [madeCells, ivs]
  · intro i h1 h2
    simp [madeCells, ivs, iv, Nat.mod_one]
end Go.Proofs.YtjjjlilflbddoaaGreatDoor
/-
  Words on worlds: what a call leaves as it was ('Fr'), the reader's block ('Rd'), bytes in memory.
-/
namespace Go.Proofs.YtjjjlilflbddoaaGreatDoor
open Go.RowKit

theorem m33 : Tryz.prog.underlying 55 = some (.interface (Tryz.prog.methodsAt 55)) := by kernel_rfl
theorem neq_err (u : TypeId) (x : Value) (w : World) : (binOp .neq 55 (.iface u x) .nilIface).run Tryz.prog w = .ok (.bool true) w := run_neq_held_nil _ 55 u x m33
theorem neq_nil (w : World) : (binOp .neq 55 .nilIface .nilIface).run Tryz.prog w = .ok (.bool false) w := run_neq_nil_nil _ 55 m33
/-- The reader, as it lies in memory. -/
structure RS where
  dv : Value
  ps : Nat
  pos : Nat
  bg : Nat
  lim : Nat
  ov : Value
  pl : Nat
  la : Bool
  le : Nat
  tb : Value
  ts : Value

/-- No number of a bit is greater. -/
def capB (n : Nat) : Nat := min n 40000
theorem capB_le (n : Nat) : capB n ≤ 40000 := by unfold capB; omega
theorem capB_id {n : Nat} (h : n ≤ 40000) : capB n = n := by unfold capB; omega

def RS.cells (s : RS) : Array Value := #[s.dv, .int .i64 s.ps, .int .i64 s.pos, .int .i64 (capB s.bg), .int .i64 s.lim, s.ov, .int .i64 s.pl, .bool s.la, .int .i64 s.le, s.tb, s.ts]
/-- How many bits the data have. -/
def RS.top (s : RS) : Nat := match s.dv with
  | .slice _ n _ => 8 * n
  | _ => 0
/-- The reader's block; no bit behind the data is taken next. -/
def Rd (w : World) (rb : Nat) (s : RS) : Prop := w.heap[rb]? = some (.cells s.cells 82 (0, 0)) ∧ s.pos ≤ s.top

section
variable {w : World} {rb : Nat} {s : RS}
theorem Rd.lt (h : Rd w rb s) : rb < w.heap.size := lt_of h.1
theorem Rd.c0 (h : Rd w rb s) : w.cell? ⟨rb, 0, none⟩ = some s.dv := by rw [cell_of h.1]; rfl
theorem Rd.c1 (h : Rd w rb s) : w.cell? ⟨rb, 2, none⟩ = some (.int .i64 s.pos) := by rw [cell_of h.1]; rfl
theorem Rd.c2 (h : Rd w rb s) : w.cell? ⟨rb, 3, none⟩ = some (.int .i64 (capB s.bg)) := by rw [cell_of h.1]; rfl
theorem Rd.c3 (h : Rd w rb s) : w.cell? ⟨rb, 4, none⟩ = some (.int .i64 s.lim) := by rw [cell_of h.1]; rfl
theorem Rd.c4 (h : Rd w rb s) : w.cell? ⟨rb, 5, none⟩ = some s.ov := by rw [cell_of h.1]; rfl
theorem Rd.c5 (h : Rd w rb s) : w.cell? ⟨rb, 6, none⟩ = some (.int .i64 s.pl) := by rw [cell_of h.1]; rfl
theorem Rd.c6 (h : Rd w rb s) : w.cell? ⟨rb, 7, none⟩ = some (.bool s.la) := by rw [cell_of h.1]; rfl
theorem Rd.c7 (h : Rd w rb s) : w.cell? ⟨rb, 8, none⟩ = some (.int .i64 s.le) := by rw [cell_of h.1]; rfl
theorem Rd.c8 (h : Rd w rb s) : w.cell? ⟨rb, 9, none⟩ = some s.tb := by rw [cell_of h.1]; rfl
theorem Rd.cp (h : Rd w rb s) : w.cell? ⟨rb, 1, none⟩ = some (.int .i64 s.ps) := by rw [cell_of h.1]; rfl
theorem Rd.ct (h : Rd w rb s) : w.cell? ⟨rb, 10, none⟩ = some s.ts := by rw [cell_of h.1]; rfl
theorem Rd.fz (h : Rd w rb s) (i : Nat) : w.frozen? ⟨rb, i, none⟩ = false := frozen_of h.1 i
theorem Rd.s1 (h : Rd w rb s) (z : Int) (n : Nat) (e : z = n) (hn : n ≤ s.top) : Rd (w.setCell ⟨rb, 2, none⟩ (.int .i64 z)) rb { s with pos := n } := by subst e; unfold Rd; rw [set_of h.1]; exact ⟨rfl, hn⟩
theorem Rd.s2 (h : Rd w rb s) (z : Int) (n : Nat) (e : z = n) (hn : n ≤ 40000) : Rd (w.setCell ⟨rb, 3, none⟩ (.int .i64 z)) rb { s with bg := n } := by
  subst e
  have : ({ s with bg := n } : RS).cells = s.cells.setIfInBounds 3 (.int .i64 n) := by unfold RS.cells; rw [capB_id hn]; rfl
  unfold Rd; rw [set_of h.1, this]; exact ⟨rfl, h.2⟩
theorem Rd.s4 (h : Rd w rb s) (v : Value) : Rd (w.setCell ⟨rb, 5, none⟩ v) rb { s with ov := v } := by unfold Rd; rw [set_of h.1]; exact ⟨rfl, h.2⟩
theorem Rd.s5 (h : Rd w rb s) (z : Int) (n : Nat) (e : z = n) : Rd (w.setCell ⟨rb, 6, none⟩ (.int .i64 z)) rb { s with pl := n } := by subst e; unfold Rd; rw [set_of h.1]; exact ⟨rfl, h.2⟩
theorem Rd.s6 (h : Rd w rb s) (b : Bool) : Rd (w.setCell ⟨rb, 7, none⟩ (.bool b)) rb { s with la := b } := by unfold Rd; rw [set_of h.1]; exact ⟨rfl, h.2⟩
theorem Rd.s7 (h : Rd w rb s) (z : Int) (n : Nat) (e : z = n) : Rd (w.setCell ⟨rb, 8, none⟩ (.int .i64 z)) rb { s with le := n } := by subst e; unfold Rd; rw [set_of h.1]; exact ⟨rfl, h.2⟩
theorem Rd.s8 (h : Rd w rb s) (v : Value) : Rd (w.setCell ⟨rb, 9, none⟩ v) rb { s with tb := v } := by unfold Rd; rw [set_of h.1]; exact ⟨rfl, h.2⟩
theorem Rd.drewN (h : Rd w rb s) (q : Nat) : Rd (w.drewN q) rb s := h
theorem Rd.alloc (h : Rd w rb s) (o : Obj) : Rd (w.alloc o) rb s := ⟨alloc_old h.1, h.2⟩
theorem Rd.fr {S : Nat → Prop} {w' : World} (h : Rd w rb s) (f : Fr S w w') (hs : ¬ S rb) : Rd w' rb s := ⟨f.at h.1 hs, h.2⟩
end

/-- A slice of bytes that holds the list; its bytes, where there are any, lie in block db. -/
def Dat (w : World) (db : Nat) (v : Value) (d : List UInt8) : Prop :=
  ∃ a cap, v = .slice a d.length cap ∧ ∀ i, i < d.length → a = some ⟨db, 0, none⟩ ∧ db < w.heap.size ∧ w.cell? ⟨db, i, none⟩ = some (.int .u8 (d.getD i 0).toNat)

theorem Dat.fr {S : Nat → Prop} {w w' : World} {db : Nat} {v : Value} {d : List UInt8} (h : Dat w db v d) (f : Fr S w w') (hs : ¬ S db) : Dat w' db v d := by
  obtain ⟨a, cap, rfl, hc⟩ := h
  refine ⟨a, cap, rfl, fun i hi => ?_⟩
  obtain ⟨h1, h2, h3⟩ := hc i hi
  exact ⟨h1, Nat.lt_of_lt_of_le h2 f.size, (f.cell (p := ⟨db, i, none⟩) h2 hs).trans h3⟩

theorem Dat.top {w : World} {db : Nat} {s : RS} {d : List UInt8} (h : Dat w db s.dv d) : s.top = 8 * d.length := by
  obtain ⟨a, cap, e, _⟩ := h
  unfold RS.top
  rw [e]

/-- What was met is told by this panic: the bits do not suffice. -/
def ShortP (w : World) (e : Ending) : Prop := ∃ p n, e = .panicked [{ v := .iface 91 (.pointer (some ⟨p, 0, none⟩)), recovered := false }] ∧ w.heap[p]? = some (.cells #[.int .i64 n] 243 (0, 0))

/-- The variable of an error's number. -/
def glob : Nat → Nat
  | 3 => 0
  | 4 => 1
  | 5 => 2
  | 6 => 3
  | 7 => 4
  | 9 => 5
  | 10 => 6
  | _ => 12

/-- What the package-level variables hold; sp: where the errors lie. -/
structure Env (sp : Nat → Addr) (w : World) : Prop where
  size : 16 ≤ w.heap.size
  err : ∀ k, 3 ≤ k → k ≤ 10 → w.cell? ⟨glob k, 0, none⟩ = some (.iface 248 (.pointer (some (sp k))))
  inj : ∀ j k, 3 ≤ j → j ≤ 10 → 3 ≤ k → k ≤ 10 → sp j = sp k → j = k
  tell : ∀ i, i < 19 → w.cell? ⟨8, i, none⟩ = some (.int .i64 (Gz.order.getD i 0 : Nat))
  len : ∀ i, i < 29 → w.cell? ⟨9, i, none⟩ = some (.int .i64 (Gz.lenFrom.getD i 0 : Nat))
  far : ∀ i, i < 30 → w.cell? ⟨10, i, none⟩ = some (.int .i64 (Gz.distFrom.getD i 0 : Nat))
  typ : w.cell? ⟨7, 0, none⟩ = some (.iface 159 (.agg #[.pointer (some ⟨16, 55, none⟩)]))

theorem glob_lt (k : Nat) : glob k < 16 := by unfold glob; split <;> omega

theorem Env.fr {S : Nat → Prop} {sp : Nat → Addr} {w w' : World} (h : Env sp w) (f : Fr S w w') (hs : ∀ k, k < 16 → ¬ S k) : Env sp w' := by
  have hz := h.size
  refine ⟨Nat.le_trans h.size f.size, fun k a b => ?_, h.inj, fun i a => ?_, fun i a => ?_, fun i a => ?_, ?_⟩
  · have := glob_lt k; rw [f.cell (p := ⟨glob k, 0, none⟩) (by show glob k < _; omega) (hs _ (glob_lt k))]; exact h.err k a b
  · rw [f.cell (p := ⟨8, i, none⟩) (by show 8 < _; omega) (hs _ (by show 8 < _; omega))]; exact h.tell i a
  · rw [f.cell (p := ⟨9, i, none⟩) (by show 9 < _; omega) (hs _ (by show 9 < _; omega))]; exact h.len i a
  · rw [f.cell (p := ⟨10, i, none⟩) (by show 10 < _; omega) (hs _ (by show 10 < _; omega))]; exact h.far i a
  · rw [f.cell (p := ⟨7, 0, none⟩) (by show 7 < _; omega) (hs _ (by show 7 < _; omega))]; exact h.typ

/-- An error that wraps what number k says, n wraps deep. -/
def Err (sp : Nat → Addr) (w : World) (v : Value) (k : Nat) : Nat → Prop
  | 0 => (3 ≤ k ∧ k ≤ 8 ∧ v = .iface 248 (.pointer (some (sp k)))) ∨ (k = 2 ∧ ∃ (p : Nat) (m : Int), w.heap[p]? = some (.cells #[.int .i64 m] 243 (0, 0)) ∧ v = .iface 91 (.pointer (some ⟨p, 0, none⟩)))
  | n + 1 => ∃ (p : Nat) (t : ByteArray) (v' : Value), w.heap[p]? = some (.cells #[.string t, v'] 90 (0, 0)) ∧ v = .iface 87 (.pointer (some ⟨p, 0, none⟩)) ∧ Err sp w v' k n
section
variable {sp : Nat → Addr} {w : World}
theorem Err.sent (k : Nat) (h3 : 3 ≤ k) (h8 : k ≤ 8) : Err sp w (.iface 248 (.pointer (some (sp k)))) k 0 := .inl ⟨h3, h8, rfl⟩
theorem Err.short (p : Nat) (n : Int) (h : w.heap[p]? = some (.cells #[.int .i64 n] 243 (0, 0))) : Err sp w (.iface 91 (.pointer (some ⟨p, 0, none⟩))) 2 0 := .inr ⟨rfl, p, n, h, rfl⟩
theorem Err.fault (p : Nat) (t : ByteArray) (v : Value) (k n : Nat) (h : w.heap[p]? = some (.cells #[.string t, v] 90 (0, 0))) (he : Err sp w v k n) : Err sp w (.iface 87 (.pointer (some ⟨p, 0, none⟩))) k (n + 1) := ⟨p, t, v, h, rfl, he⟩
/-- By the three ways. -/
theorem Err.ways {motive : ∀ (v : Value) (k n : Nat), Err sp w v k n → Prop} (sent : ∀ (k : Nat) (h3 : 3 ≤ k) (h8 : k ≤ 8), motive _ k 0 (.sent k h3 h8))
    (short : ∀ (p : Nat) (n : Int) (h : w.heap[p]? = some (.cells #[.int .i64 n] 243 (0, 0))), motive _ 2 0 (.short p n h))
    (fault : ∀ (p : Nat) (t : ByteArray) (v : Value) (k n : Nat) (h : w.heap[p]? = some (.cells #[.string t, v] 90 (0, 0))) (he : Err sp w v k n), motive v k n he → motive _ k (n + 1) (.fault p t v k n h he)) :
    ∀ {v : Value} {k n : Nat} (h : Err sp w v k n), motive v k n h := by
  intro v k n
  induction n generalizing v with
  | zero =>
    rintro (⟨h3, h8, rfl⟩ | ⟨rfl, p, m, hp, rfl⟩)
    · exact sent k h3 h8
    · exact short p m hp
  | succ n ih =>
    rintro ⟨p, t, v', hp, rfl, he⟩
    exact fault p t v' k n hp he (ih he)
end

theorem Err.fr {sp : Nat → Addr} {w w' : World} {v : Value} {k n : Nat} (h : Err sp w v k n) (f : Fr No w w') : Err sp w' v k n := by
  induction h using Err.ways with
  | sent k h3 h8 => exact .sent k h3 h8
  | short p n h => exact .short p n (f.at h (no_no _))
  | fault p t v k n h _ ih => exact .fault p t v k n (f.at h (no_no _)) ih

/-- How a reading part that writes but the reader's place comes to its end. -/
def Ran {α : Type} (sp : Nat → Addr) (w : World) (rb : Nat) (s : RS) (okv : α → Value) (badv : Value → Value) (r : Gz.Out α) (e : Ending) (w' : World) : Prop :=
  Fr (One rb) w w' ∧ match r with
  | .ok (a, q) => e = .returned (okv a) ∧ Rd w' rb { s with pos := q }
  | .error k => (∃ q, Rd w' rb { s with pos := q }) ∧ ((k = 2 ∧ ShortP w' e) ∨ (3 ≤ k ∧ k ≤ 8 ∧ ∃ v n, e = .returned (badv v) ∧ Err sp w' v k n))

/-- A code in memory, its symbols in block sb. -/
structure CodeAt (w : World) (cb co sb : Nat) (c : Gz.Code) : Prop where
  lt : cb < w.heap.size
  count : ∀ i, i < 16 → w.cell? ⟨cb, co + i, none⟩ = some (.int .i64 (c.count.getD i 0 : Nat))
  syms : ∃ a cap, w.cell? ⟨cb, co + 16, none⟩ = some (.slice a c.symbols.length cap) ∧ ∀ j, j < c.symbols.length → a = some ⟨sb, 0, none⟩ ∧ sb < w.heap.size ∧ w.cell? ⟨sb, j, none⟩ = some (.int .i64 (c.symbols.getD j 0 : Nat))
  longest : w.cell? ⟨cb, co + 17, none⟩ = some (.int .i64 c.longest)

theorem CodeAt.fr {S : Nat → Prop} {w w' : World} {cb co sb : Nat} {c : Gz.Code} (h : CodeAt w cb co sb c) (f : Fr S w w') (h1 : ¬ S cb) (h2 : ¬ S sb) : CodeAt w' cb co sb c := by
  refine ⟨Nat.lt_of_lt_of_le h.lt f.size, fun i hi => (f.cell (p := ⟨cb, co + i, none⟩) h.lt h1).trans (h.count i hi), ?_, (f.cell (p := ⟨cb, co + 17, none⟩) h.lt h1).trans h.longest⟩
  obtain ⟨a, cap, ha, hs⟩ := h.syms
  refine ⟨a, cap, (f.cell (p := ⟨cb, co + 16, none⟩) h.lt h1).trans ha, fun j hj => ?_⟩
  obtain ⟨e1, e2, e3⟩ := hs j hj
  exact ⟨e1, Nat.lt_of_lt_of_le e2 f.size, (f.cell (p := ⟨sb, j, none⟩) e2 h2).trans e3⟩

end Go.Proofs.YtjjjlilflbddoaaGreatDoor
namespace Go.Proofs.YtjjjlilflbddoaaGreatDoor
open Go.RowKit

theorem info5 : (Tryz.prog.info? 5).map (fun i => (i.zero, i.size, i.bytes)) = some (some (.int .u8 0), 1, 1) := by kernel_rfl

/-- The reader or what its bytes lie in. -/
def Two (rb : Nat) (ov : Value) : Nat → Prop := fun k => k = rb ∨ ov.ownBlock = some k

set_option maxHeartbeats 800000 in
set_option maxRecDepth 100000 in
theorem put_ok (B rb : Nat) (s : RS) (out : List UInt8) (c : UInt8) (w : World) (hB : B ≤ w.heap.size) (hr : Rd w rb s) (ho : w.ownsRow B 5 1 s.ov out.length (out.map bv)) (hne : s.ov.ownBlock ≠ some rb) (hl : out.length < s.lim) (h6 : s.lim ≤ 6000) :
    Calls Tryz.prog 112 #[.pointer (some ⟨rb, 0, none⟩), .int .u8 c.toNat] w fun e w' => e = .returned .nilIface ∧ ∃ g cap,
      Rd w' rb { s with ov := .slice (some ⟨g, 0, none⟩) (out.length + 1) cap } ∧ w'.ownsRow B 5 1 (.slice (some ⟨g, 0, none⟩) (out.length + 1) cap) (out ++ [c]).length ((out ++ [c]).map bv) ∧ (s.ov.ownBlock = some g ∨ w.heap.size ≤ g) ∧ Fr (Two rb s.ov) w w' := by
  obtain ⟨i0, hi, hz0, hz1, hz2⟩ := info_parts info5
  have h4 := hr.c4
  have h3 := hr.c3
  have f4 := hr.fz 5
  have hlt := hr.lt
  obtain ⟨ao, cap0, hov⟩ : ∃ ao cap0, s.ov = .slice ao out.length cap0 := by
    rcases ho.2 with ⟨h, h0⟩ | ⟨g, cap, cur, h, _⟩
    · exact ⟨none, 0, by rw [h, h0]⟩
    · exact ⟨_, _, h⟩
  rw [hov] at h4
  have HR := hide hr
  have HO := hide ho
  have HV := hide hov
  have HN := hide hne
  clear hr ho hov hne
  go_enter Tryz.func112, Tryz.ntmps112
  go_wp2
  go_quiet (fail)
  go_wp2_with (at_builtin; refine wpList_append_lies _ rfl (.tmp 20) (.tmp 22) 61 rfl B 5 i0 (.int .u8 0) 1 1 Tryz.underlying61 hi hz0 hz1 hz2 rfl (by decide) (.slice ao out.length cap0) out.length (out.map bv) rfl ?hown ⟨w.heap.size, 0, none⟩ 1 1 [bv c] rfl rfl ?hnews ?h1 (by decide) ?h63 ?hb ?hbase _ rfl ?hK)
  case hown => exact ownsRow_fr (S := No) (HV.out ▸ HO.out) (((Fr.refl _ _).drewN _).alloc _) (fun _ _ => no_no _)
  case hnews => intro j u hj; match j, hj with | 0, hj => simp at hj; subst hj; exact cell_of (alloc_at (World.drewN w _) _) 0
  case h1 => intro u hu; simp at hu; subst hu; rfl
  case h63 => unfold maxLen; omega
  case hb => omega
  case hbase => simp; omega
  case hK =>
    intro g cap w1 hown hgrow hat hlt1
    have hf1 : Fr (Two rb s.ov) w w1 := ((((Fr.refl _ _).drewN _).alloc _).grown hgrow (fun k hk _ => Or.inr (by rw [HV.out]; exact hk)))
    have hfo : Fr (fun k => s.ov.ownBlock = some k) w w1 := ((((Fr.refl _ _).drewN _).alloc _).grown hgrow (fun k hk _ => by rw [HV.out]; exact hk))
    have hr1 : Rd w1 rb s := HR.out.fr hfo HN.out
    have k4 := hr1.c4
    have e4 := hr1.fz 5
    have HO1 := hide hown
    have HG := hide hgrow
    have HA := hide hat
    clear hown hgrow hat hfo
    go_wp2
    go_ret
    have hgr : g ≠ rb := by
      intro e
      rcases HA.out with h | h
      · exact HN.out (by rw [HV.out, h, e])
      · have : w.heap.size ≤ g := by rw [h]; simp
        omega
    refine ⟨rfl, g, cap, hr1.s4 _, ?_, ?_, hf1.setCell (fun _ => Or.inl rfl) _⟩
    · have := ownsRow_fr HO1.out (Fr.setCell (S := One rb) (Fr.refl _ w1) (p := ⟨rb, 5, none⟩) (fun _ => one_self rb) (.slice (some ⟨g, 0, none⟩) (out.length + 1) cap)) (fun k hk e => hgr (by simp [Value.ownBlock] at hk; rw [hk]; exact e))
      simpa using this
    · rcases HA.out with h | h
      · exact Or.inl (by rw [HV.out]; exact h)
      · exact Or.inr (by rw [h]; simp)

set_option maxHeartbeats 800000 in
theorem put_no (sp : Nat → Addr) (rb : Nat) (s : RS) (n cap : Nat) (ao : Option Addr) (c : UInt8) (w : World) (hE : Env sp w) (hr : Rd w rb s) (hov : s.ov = .slice ao n cap) (hl : s.lim ≤ n) :
    Calls Tryz.prog 112 #[.pointer (some ⟨rb, 0, none⟩), .int .u8 c.toNat] w fun e w' => e = .returned (.iface 248 (.pointer (some (sp 8)))) ∧ Fr No w w' := by
  have h4 := hr.c4
  rw [hov] at h4
  have h3 := hr.c3
  have hsent : w.cell? ⟨12, 0, none⟩ = some (.iface 248 (.pointer (some (sp 8)))) := hE.err 8 (by omega) (by omega)
  clear hov
  go_enter Tryz.func112, Tryz.ntmps112
  go_wp2
  go_quiet (fail)
  go_wp2
  go_ret
  exact ⟨rfl, (Fr.refl _ _).drewN _⟩
end Go.Proofs.YtjjjlilflbddoaaGreatDoor
namespace Go.Proofs.YtjjjlilflbddoaaGreatDoor
open Go.RowKit

theorem and_one (c e : Nat) (h : c < 256) : wrap64 (bits BinOp.and IntKind.u8 ((c : Int) / 2 ^ e) 1) = ((c / 2 ^ e % 2 : Nat) : Int) := by
  have e1 : ((c : Int) / 2 ^ e) = ((c / 2 ^ e : Nat) : Int) := by simp
  have h1 : c / 2 ^ e < 256 := Nat.lt_of_le_of_lt (Nat.div_le_self _ _) h
  rw [e1]
  generalize c / 2 ^ e = q at *
  have h2 := bits_mask .u8 8 (by decide) wraps_u8 1 (by decide) (q : Int) (by omega) (by omega)
  have h3 : ((2 : Int) ^ 1 - 1) = 1 := by decide
  rw [h3] at h2
  rw [h2, wrap64_id _ (by omega) (by omega)]
  omega

theorem or_low (x y : Int) (i : Nat) (hi : i ≤ 40) (hx₀ : 0 ≤ x) (hx : x % 2 ^ i = 0) (hx₁ : x < 2 ^ 62) (hy₀ : 0 ≤ y) (hy : y < 2 ^ i) : bits .or .i64 y x = y + x := by
  have hc : bits .or .i64 y x = bits .or .i64 x y := by simp only [bits, BitVec.or_comm]
  have hp : (2 : Int) ^ i ≤ 2 ^ 40 := by exact_mod_cast Nat.pow_le_pow_right (by decide : 0 < 2) hi
  rw [hc, bits_join .i64 62 (by decide) wraps_i64 i x y hx₀ hx hx₁ hy₀ hy (by omega)]
  omega

theorem or_high (x y : Int) (hx₀ : 0 ≤ x) (hx : x % 2 = 0) (hx₁ : x < 2 ^ 62) (hy₀ : 0 ≤ y) (hy : y < 2) : bits .or .i64 x y = x + y :=
  bits_join .i64 62 (by decide) wraps_i64 1 x y hx₀ (by simpa using hx) hx₁ hy₀ (by simpa using hy) (by omega)

set_option maxHeartbeats 400000 in
theorem bit_ok (rb db : Nat) (s : RS) (d : List UInt8) (w : World) (hn : d.length ≤ 4000) (hr : Rd w rb s) (hd : Dat w db s.dv d) (hlt : s.pos < 8 * d.length) :
    Calls Tryz.prog 133 #[.pointer (some ⟨rb, 0, none⟩)] w fun e w' => e = .returned (.int .i64 (Gz.bitv d s.pos)) ∧ Rd w' rb { s with pos := s.pos + 1 } ∧ Fr (One rb) w w' := by
  have HTOP : Hid (s.pos + 1 ≤ s.top) := by have := hd.top; unfold Hid; omega
  obtain ⟨a, cap, hdv, hcs⟩ := hd
  obtain ⟨rfl, _, hc⟩ := hcs (s.pos / 8) (by omega)
  have h0 := hr.c0
  rw [hdv] at h0
  have h1 := hr.c1
  have f1 := hr.fz 2
  have HR : Hid (Rd w rb s) := hr
  have HE : Hid (Gz.bitv d s.pos = (d.getD (s.pos / 8) 0).toNat / 2 ^ (s.pos % 8) % 2) := rfl
  generalize hcc : d.getD (s.pos / 8) 0 = c at *
  have hc8 := UInt8.toNat_lt c
  clear hr hcs hcc hdv
  generalize s.pos = p at *
  generalize d.length = n at *
  go_enter Tryz.func133, Tryz.ntmps133
  go_wp2
  go_quiet (fail)
  go_wp2
  go_quiet (fail)
  go_wp2
  go_ret
  refine ⟨ret_int ?_, ?_, ?_⟩
  · rw [HE.out]; exact and_one _ _ hc8
  · exact Rd.s1 (Rd.drewN HR.out _) _ (p + 1) (by omega) HTOP.out
  · exact ((Fr.refl _ _).drewN _).setCell (fun _ => one_self rb) _

set_option maxHeartbeats 400000 in
theorem bit_short (rb db : Nat) (s : RS) (d : List UInt8) (w : World) (hn : d.length ≤ 4000) (hr : Rd w rb s) (hd : Dat w db s.dv d) (hlt : ¬ s.pos < 8 * d.length) :
    Calls Tryz.prog 133 #[.pointer (some ⟨rb, 0, none⟩)] w fun e w' => ShortP w' e ∧ Rd w' rb s ∧ Fr No w w' := by
  obtain ⟨a, cap, hdv, hcs⟩ := hd
  have h0 := hr.c0
  rw [hdv] at h0
  have h1 := hr.c1
  have f1 := hr.fz 2
  have hcp := hr.cp
  have HR : Hid (Rd w rb s) := hr
  clear hr hcs hdv
  generalize s.pos = p at *
  generalize s.ps = q at *
  generalize d.length = n at *
  have hpan : ∀ (t : TypeId) (x : Value) (w : World), (Instr.panic (.iface t x)).run Tryz.prog w = .halt (.panic (.iface t x)) w := fun _ _ _ => rfl
  go_enter Tryz.func133, Tryz.ntmps133
  go_wp2
  go_quiet (fail)
  go_wp2
  refine wp_region_any (by kernel_rfl) ?_
  change wpAny _ _ _ _ _ _ _ (World.drewN w (_ + 1))
  refine wpAny_take (i := 0) (v := ?_) rfl (by kernel_rfl) (by kernel_rfl) (by kernel_rfl) (fun _ _ _ h => h) (Or.inl ⟨by rfl, by intro w; go_simp; with_reducible rfl⟩) ?_
  refine wpAny_take (i := 1) (v := ?_) rfl (by kernel_rfl) (by kernel_rfl) (by kernel_rfl) (fun _ _ _ h => h) (Or.inl ⟨by rfl, by intro w; go_simp; with_reducible rfl⟩) ?_
  refine wpAny_take (i := 2) (v := ?_) rfl (by kernel_rfl) (by kernel_rfl) (by kernel_rfl) (fun _ _ _ h => h) (Or.inl ⟨by rfl, by intro w; go_simp; with_reducible rfl⟩) ?_
  refine wpAny_take (i := 4) (v := ?_) rfl (by kernel_rfl) (by kernel_rfl) (by kernel_rfl) (fun _ _ _ h => h) (Or.inl ⟨by rfl, by intro w; go_simp; with_reducible rfl⟩) ?_
  refine wpAny_take (i := 5) (v := ?_) rfl (by kernel_rfl) (by kernel_rfl) (by kernel_rfl) (fun _ _ _ h => h) (Or.inl ⟨by rfl, by intro w; go_simp; with_reducible rfl⟩) ?_
  refine wpAny_take (i := 6) (v := ?_) rfl (by kernel_rfl) (by kernel_rfl) (by kernel_rfl) (fun _ _ _ h => h) (Or.inl ⟨by rfl, by intro w; go_simp; with_reducible rfl⟩) ?_
  refine wpAny_ready (rs := [3, 7]) (by kernel_rfl) (by simp) ?_
  refine AllReady.cons rfl (fun K hK => ?_) ?_
  · go_simp
    refine hK _ _ ?_
    clear hK K
    refine wpAny_ready (rs := [7]) (by kernel_rfl) (by simp) ?_
    refine AllReady.cons rfl (fun K hK => ?_) AllReady.nil
    go_simp
    refine hK _ _ ?_
    clear hK K
    refine wpAny_ready (rs := [8]) (by kernel_rfl) (by simp) ?_
    refine AllReady.cons rfl (fun K hK => ?_) AllReady.nil
    go_simp
    refine hK _ _ ?_
    clear hK K
    refine wpAny_ready (rs := [9]) (by kernel_rfl) (by simp) ?_
    refine AllReady.cons rfl (fun K hK => ?_) AllReady.nil
    go_simp
    refine hK _ _ ?_
    clear hK K
    refine wpAny_ready (rs := [10]) (by kernel_rfl) (by simp) ?_
    refine AllReady.cons rfl (fun K hK => ?_) AllReady.nil
    go_simp
    refine hK _ _ ?_
    clear hK K
    refine wpAny_ready (rs := [11]) (by kernel_rfl) (by simp) ?_
    refine AllReady.cons rfl (fun K hK => ?_) AllReady.nil
    go_simp
    refine hK _ _ ?_
    clear hK K
    refine wpAny_ready (rs := [12]) (by kernel_rfl) (by simp) ?_
    refine AllReady.cons rfl (fun K hK => ?_) AllReady.nil
    go_simp
    refine hK _ _ ?_
    clear hK K
    refine wpAny_ready (rs := [13]) (by kernel_rfl) (by simp) ?_
    refine AllReady.cons rfl (fun K hK => ?_) AllReady.nil
    go_simp
    refine hK _ _ ?_
    clear hK K
    refine wpAny_ready (rs := [14]) (by kernel_rfl) (by simp) ?_
    refine AllReady.cons rfl (fun K hK => ?_) AllReady.nil
    go_simp
    exact bodyPost_panic rfl ⟨⟨w.heap.size, _, rfl, alloc_at (World.drewN w _) _⟩, Rd.alloc (Rd.drewN HR.out _) _, ((Fr.refl _ _).drewN _).alloc _⟩
  refine AllReady.cons rfl (fun K hK => ?_) AllReady.nil
  go_simp
  refine hK _ _ ?_
  clear hK K
  refine wpAny_take (i := 8) (v := ?_) rfl (by kernel_rfl) (by kernel_rfl) (by kernel_rfl) (fun _ _ _ h => h) (Or.inl ⟨by rfl, by intro w; go_simp; with_reducible rfl⟩) ?_
  refine wpAny_ready (rs := [3]) (by kernel_rfl) (by simp) ?_
  refine AllReady.cons rfl (fun K hK => ?_) AllReady.nil
  go_simp
  refine hK _ _ ?_
  clear hK K
  refine wpAny_ready (rs := [9]) (by kernel_rfl) (by simp) ?_
  refine AllReady.cons rfl (fun K hK => ?_) AllReady.nil
  go_simp
  refine hK _ _ ?_
  clear hK K
  refine wpAny_ready (rs := [10]) (by kernel_rfl) (by simp) ?_
  refine AllReady.cons rfl (fun K hK => ?_) AllReady.nil
  go_simp
  refine hK _ _ ?_
  clear hK K
  refine wpAny_ready (rs := [11]) (by kernel_rfl) (by simp) ?_
  refine AllReady.cons rfl (fun K hK => ?_) AllReady.nil
  go_simp
  refine hK _ _ ?_
  clear hK K
  refine wpAny_ready (rs := [12]) (by kernel_rfl) (by simp) ?_
  refine AllReady.cons rfl (fun K hK => ?_) AllReady.nil
  go_simp
  refine hK _ _ ?_
  clear hK K
  refine wpAny_ready (rs := [13]) (by kernel_rfl) (by simp) ?_
  refine AllReady.cons rfl (fun K hK => ?_) AllReady.nil
  go_simp
  refine hK _ _ ?_
  clear hK K
  refine wpAny_ready (rs := [14]) (by kernel_rfl) (by simp) ?_
  refine AllReady.cons rfl (fun K hK => ?_) AllReady.nil
  go_simp
  exact bodyPost_panic rfl ⟨⟨w.heap.size, _, rfl, alloc_at (World.drewN w _) _⟩, Rd.alloc (Rd.drewN HR.out _) _, ((Fr.refl _ _).drewN _).alloc _⟩

theorem val_step (d : List UInt8) (p k : Nat) (hk : k ≤ 40) : bits BinOp.or IntKind.i64 (↑(Gz.val d p k)) (wrap64 (↑(Gz.bitv d (p + k)) * 2 ^ k)) = ((Gz.val d p (k + 1) : Nat) : Int) := by
  have h1 := val_lt d p k
  have h2 := bitv_lt d (p + k)
  have hp : 2 ^ k ≤ 2 ^ 40 := Nat.pow_le_pow_right (by decide : 0 < 2) hk
  have e1 : ((2 : Int) ^ k) = ((2 ^ k : Nat) : Int) := by simp
  show _ = ((Gz.val d p k + Gz.bitv d (p + k) * 2 ^ k : Nat) : Int)
  rw [e1]
  generalize Gz.val d p k = v at *
  generalize Gz.bitv d (p + k) = b at *
  have h3 : b = 0 ∨ b = 1 := by omega
  have hz : ((b : Int) * ((2 ^ k : Nat) : Int)) % 2 ^ k = 0 := by rw [e1]; exact Int.mul_emod_left _ _
  have hb : 0 ≤ (b : Int) * ((2 ^ k : Nat) : Int) ∧ (b : Int) * ((2 ^ k : Nat) : Int) < 2 ^ 62 := by
    rcases h3 with h3 | h3 <;> subst h3 <;> simp <;> omega
  rw [wrap64_id _ hb.1 hb.2, or_low _ _ k hk hb.1 hz hb.2 (by omega) (by rw [e1]; omega)]
  simp

set_option maxHeartbeats 400000 in
theorem number_ok (rb db : Nat) (s : RS) (d : List UInt8) (n : Nat) (w : World) (hn : d.length ≤ 4000) (hne : db ≠ rb) (hr : Rd w rb s) (hd : Dat w db s.dv d) (h16 : n ≤ 16) (hlt : s.pos + n ≤ 8 * d.length) :
    Calls Tryz.prog 110 #[.pointer (some ⟨rb, 0, none⟩), .int .i64 n] w fun e w' => e = .returned (.int .i64 (Gz.val d s.pos n)) ∧ Rd w' rb { s with pos := s.pos + n } ∧ Fr (One rb) w w' := by
  go_enter Tryz.func110, Tryz.ntmps110
  go_wp2
  go_loopw [5, 8] (fun sum i wr => ∃ k : Nat, k ≤ n ∧ i = .int .i64 k ∧ sum = .int .i64 (Gz.val d s.pos k) ∧ Rd wr rb { s with pos := s.pos + k } ∧ Fr (One rb) w wr) (fun _ i _ => n - (intOf i).toNat)
  case atStart => exact ⟨0, Nat.zero_le _, rfl, rfl, hr, Fr.refl _ _⟩
  case round =>
    obtain ⟨k, hk, rfl, rfl, hrr, hfr⟩ := hrel
    by_cases hlk : k < n
    · go_wp2_with (go_at_call 133; refine (bit_ok rb db _ d _ hn hrr (hd.fr hfr hne) (by show s.pos + k < _; omega)).mono ?_; rintro e w1 ⟨rfl, hr1, hf1⟩)
      refine ⟨⟨k + 1, by omega, by go_num, congrArg _ ?_, hr1, hfr.trans hf1⟩, by simp [intOf]; omega⟩
      exact val_step d s.pos k (by omega)
    · go_wp2
      go_ret
      have : k = n := by omega
      subst this
      exact ⟨rfl, hrr, hfr⟩

set_option maxHeartbeats 400000 in
theorem number_short (rb db : Nat) (s : RS) (d : List UInt8) (n : Nat) (w : World) (hn : d.length ≤ 4000) (hne : db ≠ rb) (hr : Rd w rb s) (hd : Dat w db s.dv d) (h16 : n ≤ 16) (hn0 : 0 < n) (hlt : ¬ s.pos + n ≤ 8 * d.length) :
    Calls Tryz.prog 110 #[.pointer (some ⟨rb, 0, none⟩), .int .i64 n] w fun e w' => ShortP w' e ∧ (∃ q, Rd w' rb { s with pos := q }) ∧ Fr (One rb) w w' := by
  go_enter Tryz.func110, Tryz.ntmps110
  go_wp2
  go_loopw [5, 8] (fun sum i wr => ∃ k : Nat, k ≤ n ∧ i = .int .i64 k ∧ sum = .int .i64 (Gz.val d s.pos k) ∧ s.pos + k < s.pos + n ∧ (0 < k → s.pos + k ≤ 8 * d.length) ∧ Rd wr rb { s with pos := s.pos + k } ∧ Fr (One rb) w wr) (fun _ i _ => n - (intOf i).toNat)
  case atStart => exact ⟨0, Nat.zero_le _, rfl, rfl, by omega, by omega, hr, Fr.refl _ _⟩
  case round =>
    obtain ⟨k, hk, rfl, rfl, hkn, hk8, hrr, hfr⟩ := hrel
    have hlk : k < n := by omega
    by_cases hb : s.pos + k < 8 * d.length
    · go_wp2_with (go_at_call 133; refine (bit_ok rb db _ d _ hn hrr (hd.fr hfr hne) hb).mono ?_; rintro e w1 ⟨rfl, hr1, hf1⟩)
      refine ⟨⟨k + 1, by omega, by go_num, congrArg _ ?_, by omega, by omega, hr1, hfr.trans hf1⟩, by simp [intOf]; omega⟩
      exact val_step d s.pos k (by omega)
    · go_wp2_with (go_at_call 133; refine (bit_short rb db _ d _ hn hrr (hd.fr hfr hne) hb).mono ?_; rintro e w1 ⟨⟨p, m, rfl, hp⟩, hr1, hf1⟩)
      refine bodyPost_panic rfl ⟨⟨p, m, rfl, hp⟩, ⟨_, hr1⟩, hfr.trans hf1.of_no⟩
end Go.Proofs.YtjjjlilflbddoaaGreatDoor
namespace Go.Proofs.YtjjjlilflbddoaaGreatDoor
open Go.RowKit

theorem sh_or (t b : Nat) (ht : t < 65536) (hb : b < 2) : bits BinOp.or IntKind.i64 ((t : Int) * 2) (b : Int) = ((2 * t + b : Nat) : Int) := by
  rw [or_high _ _ (by omega) (by omega) (by omega) (by omega) (by omega)]; omega

set_option maxHeartbeats 800000 in
theorem symbol_any (sp : Nat → Addr) (rb db cb co sb : Nat) (s : RS) (d : List UInt8) (c : Gz.Code) (w : World) (hn : d.length ≤ 4000) (hdb : db ≠ rb) (hcb : cb ≠ rb) (hsb : sb ≠ rb) (h13 : 16 ≤ rb)
    (hE : Env sp w) (hr : Rd w rb s) (hd : Dat w db s.dv d) (hc : CodeAt w cb co sb c) (hg : Good c) :
    Calls Tryz.prog 118 #[.pointer (some ⟨rb, 0, none⟩), .pointer (some ⟨cb, co, none⟩)] w
      (Ran sp w rb s (fun v => .tuple #[.int .i64 (v : Nat), .nilIface]) (fun v => .tuple #[.int .i64 0, v]) (Gz.sym d c s.pos)) := by
  obtain ⟨g1, g2, g3, g4⟩ := hg
  obtain ⟨sa, scap, hs16, hsy⟩ := hc.syms
  go_enter Tryz.func118, Tryz.ntmps118
  go_wp2
  go_loopw [6, 7, 8, 9] (fun vt vf vs vn wr => ∃ k taken first shorter p : Nat, 1 ≤ k ∧ k ≤ c.longest + 1 ∧ vt = .int .i64 taken ∧ vf = .int .i64 first ∧ vs = .int .i64 shorter ∧ vn = .int .i64 k ∧
      first ≤ taken ∧ taken < 2 ^ (k - 1) ∧ shorter + c.count.getD 0 0 = (c.count.take k).sum ∧ Gz.symGo d c (c.longest + 1 - k) k taken first shorter p = Gz.sym d c s.pos ∧ Rd wr rb { s with pos := p } ∧ Fr (One rb) w wr) (fun _ _ _ i _ => 16 - (intOf i).toNat)
  case atStart => exact ⟨1, 0, 0, 0, s.pos, by omega, by omega, rfl, rfl, rfl, rfl, by omega, by decide, by rw [sum_take_succ _ _ (by omega)]; simp, rfl, hr, Fr.refl _ _⟩
  case round =>
    obtain ⟨k, taken, first, shorter, p, hk1, hk, rfl, rfl, rfl, rfl, hft, ht2, hsh, hgo, hrr, hfr⟩ := hrel
    have hlong := (hfr.cell (p := ⟨cb, co + 17, none⟩) hc.lt (one_ne hcb)).trans hc.longest
    by_cases hkl : k ≤ c.longest
    · have h2k : 2 ^ (k - 1) ≤ 2 ^ 14 := Nat.pow_le_pow_right (by decide) (by omega)
      have hcnt := hc.count k (by omega)
      have hcs := sum_take_succ c.count k (by omega)
      have hcl := sum_take_le c.count (k + 1)
      have hm : c.longest + 1 - k = (c.longest - k) + 1 := by omega
      by_cases hb : p < 8 * d.length
      · have hbv := bitv_lt d p
        obtain ⟨tk, htk⟩ : ∃ tk, tk = 2 * taken + Gz.bitv d p := ⟨_, rfl⟩
        obtain ⟨cn, hcn⟩ : ∃ cn, cn = c.count.getD k 0 := ⟨_, rfl⟩
        rw [← hcn] at hcnt hcs
        have HG : Hid (Gz.symGo d c (c.longest + 1 - k) k taken first shorter p = Gz.sym d c s.pos) := hgo
        have HT : Hid (tk = 2 * taken + Gz.bitv d p) := htk
        have HC : Hid (cn = c.count.getD k 0) := hcn
        have HS : Hid (shorter + c.count.getD 0 0 = (c.count.take k).sum) := hsh
        have hcn' : cn ≤ 320 := by omega
        have hsn' : shorter ≤ 320 := by omega
        have hkc : cn + shorter ≤ c.symbols.length := by omega
        have htk1 : 2 * first ≤ tk := by omega
        have htk2 : tk < 2 ^ 15 := by omega
        have hor := sh_or taken (Gz.bitv d p) (by omega) hbv
        rw [← htk] at hor
        clear htk hgo hcn hsh hcs hcl hm
        by_cases hhit : tk < 2 * first + cn
        · obtain ⟨rfl, hsl, hsc⟩ := hsy (shorter + tk - first * 2) (by omega)
          go_wp2_with (go_at_call 133; refine (bit_ok rb db _ d _ hn hrr (hd.fr hfr (one_ne hdb)) hb).mono ?_; rintro e w1 ⟨rfl, hr1, hf1⟩; have hc1 := (hfr.trans hf1).cell (p := ⟨cb, co + k, none⟩) hc.lt (one_ne hcb); rw [hcnt] at hc1; have hc2 := (hfr.trans hf1).cell (p := ⟨cb, co + 16, none⟩) hc.lt (one_ne hcb); rw [hs16] at hc2; have hc3 := (hfr.trans hf1).cell (p := ⟨sb, shorter + tk - first * 2, none⟩) hsl (one_ne hsb); rw [hsc] at hc3)
          go_ret2
          refine ⟨hfr.trans hf1, ?_⟩
          have e1 : Gz.sym d c s.pos = .ok ((c.symbols.getD (shorter + tk - first * 2) 0), (p + 1)) := by
            rw [← HG.out, show c.longest + 1 - k = (c.longest - k) + 1 by omega]
            simp only [Gz.symGo]
            rw [if_pos hb, ← HT.out, ← HC.out, if_pos hhit, Nat.mul_comm first 2]
          rw [e1]
          exact ⟨rfl, hr1⟩
        · go_wp2_with (go_at_call 133; refine (bit_ok rb db _ d _ hn hrr (hd.fr hfr (one_ne hdb)) hb).mono ?_; rintro e w1 ⟨rfl, hr1, hf1⟩; have hc1 := (hfr.trans hf1).cell (p := ⟨cb, co + k, none⟩) hc.lt (one_ne hcb); rw [hcnt] at hc1)
          refine ⟨⟨k + 1, tk, first * 2 + cn, shorter + cn, p + 1, by omega, by omega, rfl, by go_num, by go_num, by go_num, by omega, ?_, ?_, ?_, hr1, hfr.trans hf1⟩, by simp [intOf]; omega⟩
          · rw [HT.out]
            have : 2 ^ (k + 1 - 1) = 2 * 2 ^ (k - 1) := by rw [show k + 1 - 1 = (k - 1) + 1 by omega, Nat.pow_succ]; omega
            omega
          · rw [sum_take_succ c.count k (by omega), ← HS.out, ← HC.out]; omega
          · rw [← HG.out, show c.longest + 1 - k = (c.longest - k) + 1 by omega, show c.longest + 1 - (k + 1) = c.longest - k by omega]
            conv => rhs; unfold Gz.symGo
            rw [if_pos hb, ← HT.out, ← HC.out, if_neg hhit, Nat.mul_comm first 2]
      · have HG : Hid (Gz.symGo d c (c.longest + 1 - k) k taken first shorter p = Gz.sym d c s.pos) := hgo
        clear hgo hsh hcs hcl hm
        go_wp2_with (go_at_call 133; refine (bit_short rb db _ d _ hn hrr (hd.fr hfr (one_ne hdb)) hb).mono ?_; rintro e w1 ⟨⟨q, m, rfl, hq⟩, hr1, hf1⟩)
        refine bodyPost_panic rfl ⟨hfr.trans hf1.of_no, ?_⟩
        have e1 : Gz.sym d c s.pos = .error 2 := by
          rw [← HG.out, show c.longest + 1 - k = (c.longest - k) + 1 by omega]
          simp only [Gz.symGo]
          rw [if_neg hb]
        rw [e1]
        exact ⟨⟨_, hr1⟩, Or.inl ⟨rfl, q, m, rfl, hq⟩⟩
    · have HG : Hid (Gz.symGo d c (c.longest + 1 - k) k taken first shorter p = Gz.sym d c s.pos) := hgo
      have hsent := (hE.fr hfr (fun k hk => one_ne (by omega))).err 6 (by omega) (by omega)
      have hsent : wr.cell? ⟨3, 0, none⟩ = some (.iface 248 (.pointer (some (sp 6)))) := hsent
      clear hgo hsh
      go_wp2
      go_region
      all_goals
        go_wp2
        go_ret2
        refine ⟨(hfr.drew).alloc _, ?_⟩
        have e1 : Gz.sym d c s.pos = .error 6 := by
          rw [← HG.out, show c.longest + 1 - k = 0 by omega]
          rfl
        rw [e1]
        exact ⟨⟨p, hrr.alloc _⟩, Or.inr ⟨by omega, by omega, _, 1, rfl, .fault _ _ _ _ _ (alloc_at wr.drew _) (.sent 6 (by omega) (by omega))⟩⟩
end Go.Proofs.YtjjjlilflbddoaaGreatDoor
