import Derived.WideKeyArr
import Derived.Maps.OwnSet
import Derived.Maps.RangeWalk
import Derived.Test.YtjjjlilflbddoaaGreatDoorGPure
/-
  Keys that are arrays of bytes: what they read as; elements that are a pointer and a number.
-/
namespace Go.Proofs.YtjjjlilflbddoaaGreatDoor
open Go.Maps Go.WideMaps

def ku (n : Nat) : Value := .int .u8 n
def kus (l : List Nat) : Array Value := (l.map ku).toArray
def keyLit (l : List Nat) : Lit := .string (keyBytes (l.map fun n => .int .u8 (n : Nat)))

section
variable {P : Program} {k e : TypeId} {n : Nat}

theorem mapM_range_one {α : Type} (f : List Value → Option α) : ∀ (cs : List Value) (m : Nat), (List.range' m (cs.length)).mapM (fun i => f ((((List.replicate m Value.nilIface) ++ cs).drop (i * 1)).take 1)) = cs.mapM (fun c => f [c])
  | [], m => rfl
  | c :: cs, m => by
    have ih := mapM_range_one f cs (m + 1)
    rw [List.length_cons, List.range'_succ, List.mapM_cons, List.mapM_cons]
    have e1 : (((List.replicate m Value.nilIface) ++ c :: cs).drop (m * 1)).take 1 = [c] := by simp
    have e2 : (List.range' (m + 1) cs.length).mapM (fun i => f ((((List.replicate m Value.nilIface) ++ c :: cs).drop (i * 1)).take 1)) = (List.range' (m + 1) cs.length).mapM (fun i => f ((((List.replicate (m + 1) Value.nilIface) ++ cs).drop (i * 1)).take 1)) := by
      have hcong : ∀ (L : List Nat), (∀ i ∈ L, m + 1 ≤ i) → L.mapM (fun i => f ((((List.replicate m Value.nilIface) ++ c :: cs).drop (i * 1)).take 1)) = L.mapM (fun i => f ((((List.replicate (m + 1) Value.nilIface) ++ cs).drop (i * 1)).take 1)) := by
        intro L
        induction L with
        | nil => intro _; rfl
        | cons i L ih =>
          intro h
          rw [List.mapM_cons, List.mapM_cons, ih (fun j hj => h j (List.mem_cons_of_mem _ hj))]
          have hi := h i (List.mem_cons_self ..)
          have e3 : ((List.replicate m Value.nilIface) ++ c :: cs).drop (i * 1) = ((List.replicate (m + 1) Value.nilIface) ++ cs).drop (i * 1) := by
            have e4 : (List.replicate m Value.nilIface).drop (i * 1) = [] := List.drop_eq_nil_of_le (by simp; omega)
            have e5 : (List.replicate (m + 1) Value.nilIface).drop (i * 1) = [] := List.drop_eq_nil_of_le (by simp; omega)
            rw [List.drop_append, List.drop_append, List.length_replicate, List.length_replicate, e4, e5, show i * 1 - m = (i * 1 - (m + 1)) + 1 by omega, List.drop_succ_cons]
          rw [e3]
      exact hcong _ (fun i hi => by have := List.mem_range'.1 hi; omega)
    rw [e1, e2, ih]

theorem mapM_range (f : List Value → Option (List Lit)) (cs : List Value) : (List.range cs.length).mapM (fun i => f ((cs.drop (i * 1)).take 1)) = cs.mapM (fun c => f [c]) := by
  have := mapM_range_one f cs 0
  rw [List.range_eq_range']
  simpa using this

theorem lit_u8 (x : Int) : (Lit.int .u8 x).wf = true ↔ 0 ≤ x ∧ x < 256 := by
  have h1 : IntKind.u8.min = 0 := rfl
  have h2 : IntKind.u8.max = 255 := rfl
  simp only [Lit.wf, h1, h2]
  simp
  omega

theorem keyLits_mk (he : P.underlying e = some (.int .u8)) (D : Nat) : ∀ l : List Nat, (∀ i, i < l.length → l.getD i 0 ≤ 255) → (l.map ku).mapM (fun c => P.keyLits (D + 1) e [c]) = some (l.map fun n => [Lit.int .u8 (n : Nat)])
  | [], _ => rfl
  | a :: l, h => by
    have ih := keyLits_mk he D l (fun i hi => by have := h (i + 1) (by simp; omega); simpa [List.getD] using this)
    have ha : a ≤ 255 := by have := h 0 (by simp); simpa using this
    have hw : (Lit.int .u8 (a : Nat)).wf = true := (lit_u8 _).2 (by omega)
    rw [List.map_cons, List.mapM_cons, ih]
    simp [Program.keyLits, ku, he, hw]

theorem keyLits_inv (he : P.underlying e = some (.int .u8)) (D : Nat) : ∀ (cs : List Value) (xs : List (List Lit)), cs.mapM (fun c => P.keyLits (D + 1) e [c]) = some xs → ∃ l : List Nat, cs = l.map ku ∧ (∀ i, i < l.length → l.getD i 0 ≤ 255)
  | [], _, _ => ⟨[], rfl, fun i hi => by simp at hi⟩
  | c :: cs, xs, h => by
    rw [List.mapM_cons] at h
    simp only [bind, Option.bind_eq_some_iff, pure, Option.some.injEq] at h
    obtain ⟨y, hy, ys, hys, rfl⟩ := h
    obtain ⟨l, rfl, hl⟩ := keyLits_inv he D cs ys hys
    unfold Program.keyLits at hy
    rw [he] at hy
    cases c <;> simp at hy
    rename_i q a
    obtain ⟨⟨rfl, hw⟩, _⟩ := hy
    have h2 := (lit_u8 a).1 hw
    refine ⟨a.toNat :: l, ?_, fun i hi => ?_⟩
    · simp [ku]; omega
    · cases i with
      | zero => simp; omega
      | succ i => have := hl i (by simpa using hi); simpa [List.getD] using this

theorem flat_one (l : List Nat) : (l.map fun n => [Lit.int .u8 (n : Nat)]).flatten = l.map fun n => Lit.int .u8 (n : Nat) := by
  induction l with
  | nil => rfl
  | cons a l ih => simp [ih]

theorem key_mk (A : ArrKey P k e n) (he : P.underlying e = some (.int .u8)) (hsz : ∃ m, P.types.size = m + 1) {l : List Nat} (hn : l.length = n) (hl : ∀ i, i < l.length → l.getD i 0 ≤ 255) : keyOf P k (.agg (kus l)) = some (keyLit l) := by
  have hkt := A.keyType hsz
  obtain ⟨m, hm⟩ := hsz
  have hs : (kus l).size = n := by simp [kus, hn]
  unfold keyOf
  simp only [A.hu]
  rw [if_pos (by simp [hkt, Value.formed, A.hu, A.size, hs]), hm]
  unfold Program.keyLits
  simp only [A.hu, Value.cells]
  rw [if_pos (by rw [A.size]; simpa using hs), A.one]
  have e1 := mapM_range (fun cs => P.keyLits (m + 1) e cs) (kus l).toList
  have e2 : (kus l).toList = l.map ku := rfl
  rw [e2, List.length_map, hn, keyLits_mk he m l hl] at e1
  rw [e2, e1]
  simp only [Option.map_some, flat_one]
  rfl

theorem key_inv (A : ArrKey P k e n) (he : P.underlying e = some (.int .u8)) (hsz : ∃ m, P.types.size = m + 1) {v : Value} {kl : Lit} (h : keyOf P k v = some kl) : ∃ l : List Nat, v = .agg (kus l) ∧ l.length = n ∧ (∀ i, i < l.length → l.getD i 0 ≤ 255) ∧ kl = keyLit l := by
  have hkt := A.keyType hsz
  have hsz' := hsz
  obtain ⟨m, hm⟩ := hsz
  have h0 := h
  unfold keyOf at h
  simp only [A.hu] at h
  split at h
  · rename_i hc
    simp only [hkt, Bool.true_and] at hc
    cases v <;> simp [Value.formed, A.hu, A.size] at hc
    rename_i cs
    rw [hm] at h
    unfold Program.keyLits at h
    simp only [A.hu, Value.cells] at h
    rw [if_pos (by rw [A.size]; simpa using hc), A.one] at h
    have e1 := mapM_range (fun cs => P.keyLits (m + 1) e cs) cs.toList
    rw [show cs.toList.length = n by simpa using hc] at e1
    rw [e1] at h
    cases hx : cs.toList.mapM (fun c => P.keyLits (m + 1) e [c]) with
    | none => rw [hx] at h; simp at h
    | some xs =>
      obtain ⟨l, e2, hl⟩ := keyLits_inv he m _ _ hx
      have hcs : cs = kus l := by rw [kus, ← e2]
      have hln : l.length = n := by rw [← hc, hcs]; simp [kus]
      subst hcs
      refine ⟨l, rfl, hln, hl, ?_⟩
      have h3 := key_mk A he hsz' hln hl
      rw [h0] at h3
      exact Option.some.inj h3
  · cases h

theorem kus_inj {l l' : List Nat} (h : kus l = kus l') : l = l' := by
  have h1 : (l.map ku) = (l'.map ku) := by simpa [kus] using h
  have h2 : ∀ {a b : Nat}, ku a = ku b → a = b := fun h => by unfold ku at h; injection h with _ h; exact Int.ofNat.inj h
  exact (List.map_inj_right (fun _ _ h => h2 h)).1 h1
theorem keyLit_inj (A : ArrKey P k e n) (he : P.underlying e = some (.int .u8)) (hsz : ∃ m, P.types.size = m + 1) {l l' : List Nat} (hn : l.length = n) (hl : ∀ i, i < l.length → l.getD i 0 ≤ 255) (hn' : l'.length = n) (hl' : ∀ i, i < l'.length → l'.getD i 0 ≤ 255) (h : keyLit l = keyLit l') : l = l' := by
  have h1 := key_mk A he hsz hn hl
  have h2 := key_mk A he hsz hn' hl'
  rw [h] at h1
  have h3 := A.law.inj h1 h2
  injection h3 with h4
  exact kus_inj h4
end

/-- An element: a pointer and a number. -/
def mkE (x : Option Addr × Int) : Value := .agg #[.pointer x.1, .int .i64 x.2]
def RE (v : Value) : Option (DataW (Option Addr × Int) × List MemPlace) :=
  match v with
  | .agg cs => match cs.toList with
    | [.pointer p, .int .i64 a] => some (.held (p, a), [])
    | _ => none
  | _ => none
theorem RE_mk (x : Option Addr × Int) : RE (mkE x) = some (.held x, []) := rfl
theorem RE_inv {v : Value} {y : DataW (Option Addr × Int) × List MemPlace} (h : RE v = some y) : ∃ x, v = mkE x ∧ y = (.held x, []) := by
  unfold RE at h
  split at h
  · rename_i cs
    split at h
    · rename_i p a hc
      refine ⟨(p, a), ?_, (Option.some.inj h).symm⟩
      have : cs = #[.pointer p, .int .i64 a] := by
        cases cs with
        | mk l => simp only at hc; rw [hc]
      rw [this]; rfl
    · cases h
  · cases h
end Go.Proofs.YtjjjlilflbddoaaGreatDoor
/-
  The tables that are kept, as a list: the key, and when it was asked for last; the one that was asked for longest ago is the first.
-/
namespace Go.Proofs.YtjjjlilflbddoaaGreatDoor
namespace Gz

structure Tc where
  most : Nat
  made : Nat
  asked : Nat
  kept : List (List Nat × Nat)

def Tc.new (most : Nat) : Tc := ⟨most, 0, 0, []⟩
def Tc.drop (c : Tc) : Tc := { c with kept := [] }
def Tc.hit (c : Tc) (l : List Nat) : Bool := c.kept.any fun x => x.1 == l
def Tc.turn (c : Tc) (l : List Nat) : List (List Nat × Nat) := (c.kept.filter fun x => !(x.1 == l)) ++ [(l, c.asked + 1)]
def Tc.ask (c : Tc) (l : List Nat) : Tc :=
  { most := c.most, made := if c.hit l then c.made else c.made + 1, asked := c.asked + 1, kept := if c.most < (c.turn l).length then (c.turn l).drop 1 else c.turn l }
def Tc.asks (c : Tc) (ls : List (List Nat)) : Tc := ls.foldl Tc.ask c

structure Tc.Ok (c : Tc) : Prop where
  most : c.most ≤ 16
  len : c.kept.length ≤ c.most
  made : c.made ≤ c.asked
  up : c.kept.Pairwise (fun x y => x.2 < y.2)
  top : ∀ x ∈ c.kept, x.2 ≤ c.asked
  apart : c.kept.Pairwise (fun x y => x.1 ≠ y.1)
  keys : ∀ x ∈ c.kept, x.1.length = 320 ∧ Lens x.1

theorem Tc.ok_new {n : Nat} (h : n ≤ 16) : (Tc.new n).Ok := ⟨h, Nat.zero_le _, Nat.le_refl _, List.Pairwise.nil, by simp [Tc.new], List.Pairwise.nil, by simp [Tc.new]⟩
theorem Tc.Ok.drop {c : Tc} (h : c.Ok) : c.drop.Ok := ⟨h.most, Nat.zero_le _, h.made, List.Pairwise.nil, by simp [Tc.drop], List.Pairwise.nil, by simp [Tc.drop]⟩

section
variable {c : Tc} {l : List Nat}
theorem Tc.Ok.turn_up (h : c.Ok) : (c.turn l).Pairwise (fun x y => x.2 < y.2) := by
  refine List.pairwise_append.2 ⟨h.up.filter _, List.pairwise_singleton _ _, fun x hx y hy => ?_⟩
  have hx' := h.top x (List.mem_filter.1 hx).1
  rw [List.mem_singleton.1 hy]
  show x.2 < c.asked + 1
  omega
theorem Tc.Ok.turn_apart (h : c.Ok) : (c.turn l).Pairwise (fun x y => x.1 ≠ y.1) := by
  refine List.pairwise_append.2 ⟨h.apart.filter _, List.pairwise_singleton _ _, fun x hx y hy => ?_⟩
  have hx' := (List.mem_filter.1 hx).2
  rw [List.mem_singleton.1 hy]
  simpa using hx'
theorem Tc.Ok.turn_top (h : c.Ok) : ∀ x ∈ c.turn l, x.2 ≤ c.asked + 1 := by
  intro x hx
  rcases List.mem_append.1 hx with hx | hx
  · have := h.top x (List.mem_filter.1 hx).1; omega
  · rw [List.mem_singleton.1 hx]; exact Nat.le_refl _
theorem Tc.Ok.turn_keys (h : c.Ok) (hn : l.length = 320) (hl : Lens l) : ∀ x ∈ c.turn l, x.1.length = 320 ∧ Lens x.1 := by
  intro x hx
  rcases List.mem_append.1 hx with hx | hx
  · exact h.keys x (List.mem_filter.1 hx).1
  · rw [List.mem_singleton.1 hx]; exact ⟨hn, hl⟩
theorem Tc.Ok.turn_len (h : c.Ok) : (c.turn l).length ≤ c.most + 1 := by
  have h1 := List.length_filter_le (fun x : List Nat × Nat => !(x.1 == l)) c.kept
  have h2 := h.len
  simp only [Tc.turn, List.length_append, List.length_singleton]
  omega
/-- How many there are behind an asking: no more if it is there. -/
theorem filter_hit {l : List Nat} : ∀ {L : List (List Nat × Nat)}, L.Pairwise (fun x y => x.1 ≠ y.1) → (L.filter fun x => !(x.1 == l)).length + (if L.any (fun x => x.1 == l) then 1 else 0) = L.length
  | [], _ => rfl
  | x :: L, h => by
    obtain ⟨h1, h2⟩ := List.pairwise_cons.1 h
    have ih := filter_hit (l := l) h2
    by_cases hx : x.1 = l
    · have hno : L.any (fun x => x.1 == l) = false := by
        rw [Bool.eq_false_iff]
        intro ht
        obtain ⟨y, hy, hyl⟩ := List.any_eq_true.1 ht
        have hyl : y.1 = l := by simpa using hyl
        exact h1 y hy (hx.trans hyl.symm)
      rw [hno] at ih
      simp [hx] at ih ⊢
      exact ih
    · have hb : (x.1 == l) = false := by simpa using hx
      rw [List.filter_cons, List.any_cons, hb]
      simp only [Bool.not_false, if_true, Bool.false_or, List.length_cons]
      omega
theorem Tc.Ok.ask (h : c.Ok) (hn : l.length = 320) (hl : Lens l) : (c.ask l).Ok := by
  have h1 := h.turn_len (l := l)
  refine ⟨h.most, ?_, ?_, ?_, ?_, ?_, ?_⟩
  · show (if c.most < (c.turn l).length then (c.turn l).drop 1 else c.turn l).length ≤ c.most
    split
    · rw [List.length_drop]; omega
    · omega
  · show (if c.hit l then c.made else c.made + 1) ≤ c.asked + 1
    have := h.made
    split <;> omega
  · show (if c.most < (c.turn l).length then (c.turn l).drop 1 else c.turn l).Pairwise _
    split
    · exact h.turn_up.sublist (List.drop_sublist _ _)
    · exact h.turn_up
  · intro x hx
    have hx : x ∈ (if c.most < (c.turn l).length then (c.turn l).drop 1 else c.turn l) := hx
    split at hx
    · exact h.turn_top x (List.mem_of_mem_drop hx)
    · exact h.turn_top x hx
  · show (if c.most < (c.turn l).length then (c.turn l).drop 1 else c.turn l).Pairwise _
    split
    · exact h.turn_apart.sublist (List.drop_sublist _ _)
    · exact h.turn_apart
  · intro x hx
    have hx : x ∈ (if c.most < (c.turn l).length then (c.turn l).drop 1 else c.turn l) := hx
    split at hx
    · exact h.turn_keys hn hl x (List.mem_of_mem_drop hx)
    · exact h.turn_keys hn hl x hx
theorem Tc.asks_app (c : Tc) (a b : List (List Nat)) : c.asks (a ++ b) = (c.asks a).asks b := List.foldl_append
end
end Gz
end Go.Proofs.YtjjjlilflbddoaaGreatDoor
/-
  A map that holds just what is kept.
-/
namespace Go.Proofs.YtjjjlilflbddoaaGreatDoor
open Go.Maps Go.WideMaps

abbrev Dx : Type := DataW (Option Addr × Int)
/-- A key as the lengths are. -/
def KeyOk (l : List Nat) : Prop := l.length = 320 ∧ Lens l
theorem KeyOk.byte {l : List Nat} (h : KeyOk l) : ∀ i, i < l.length → l.getD i 0 ≤ 255 := fun i hi => Nat.le_trans (h.2 i hi) (by decide)

structure Holds (Tb : Nat → List Nat → Prop) (D : Dx) (kept : List (List Nat × Nat)) : Prop where
  size : Maps.size D = kept.length
  only : ∀ kl, Maps.has D kl = true → ∃ x ∈ kept, kl = keyLit x.1
  held : ∀ x ∈ kept, ∃ tb, (∀ z, D.atKey (keyLit x.1) z = .held (some ⟨tb, 0, none⟩, (x.2 : Int))) ∧ Tb tb x.1

theorem holds_nil (Tb : Nat → List Nat → Prop) : Holds Tb (.map []) [] := ⟨rfl, fun kl h => (by cases h), fun x hx => (by simp at hx)⟩
section
variable {Tb Tb' : Nat → List Nat → Prop} {D : Dx} {kept : List (List Nat × Nat)}
theorem Holds.mono (h : Holds Tb D kept) (hT : ∀ tb l, Tb tb l → Tb' tb l) : Holds Tb' D kept :=
  ⟨h.size, h.only, fun x hx => let ⟨tb, h1, h2⟩ := h.held x hx; ⟨tb, h1, hT _ _ h2⟩⟩
theorem Holds.has (h : Holds Tb D kept) {x : List Nat × Nat} (hx : x ∈ kept) : Maps.has D (keyLit x.1) = true := by
  obtain ⟨tb, h1, _⟩ := h.held x hx
  exact has_true_of_atKey h1
theorem Holds.hit (h : Holds Tb D kept) (hinj : ∀ {a b : List Nat}, KeyOk a → KeyOk b → keyLit a = keyLit b → a = b) (hk : ∀ x ∈ kept, KeyOk x.1) {l : List Nat} (hl : KeyOk l) : Maps.has D (keyLit l) = kept.any (fun x => x.1 == l) := by
  rw [Bool.eq_iff_iff]
  constructor
  · intro h1
    obtain ⟨x, hx, e⟩ := h.only _ h1
    exact List.any_eq_true.2 ⟨x, hx, by simp [hinj hl (hk x hx) e]⟩
  · intro h1
    obtain ⟨x, hx, e⟩ := List.any_eq_true.1 h1
    have e : x.1 = l := by simpa using e
    exact e ▸ h.has hx
theorem Holds.put (h : Holds Tb D kept) (hD : Tidy D) (hinj : ∀ {a b : List Nat}, KeyOk a → KeyOk b → keyLit a = keyLit b → a = b) (hk : ∀ x ∈ kept, KeyOk x.1) (hap : kept.Pairwise (fun x y => x.1 ≠ y.1)) {l : List Nat} (hl : KeyOk l) {tb : Nat} (ht : Tb tb l) (a : Nat) :
    Holds Tb (D.put (keyLit l) (.held (some ⟨tb, 0, none⟩, (a : Int)))) ((kept.filter fun x => !(x.1 == l)) ++ [(l, a)]) := by
  have hlit : WideAt.IsKeyLit (keyLit l) := trivial
  have hne : ∀ x ∈ kept, x.1 ≠ l → keyLit x.1 ≠ keyLit l := fun x hx hn e => hn (hinj (hk x hx) hl e)
  refine ⟨?_, fun kl hkl => ?_, fun x hx => ?_⟩
  · rw [size_put hD, h.hit hinj hk hl, h.size, List.length_append, List.length_singleton]
    have := Gz.filter_hit (l := l) hap
    cases hh : kept.any (fun x => x.1 == l) with
    | true => rw [hh] at this; simp only [if_true] at this ⊢; omega
    | false => rw [hh] at this; simp only [Bool.false_eq_true, if_false] at this ⊢; omega
  · by_cases e : kl = keyLit l
    · exact ⟨(l, a), by simp, e⟩
    · rw [has_put_other e] at hkl
      obtain ⟨x, hx, rfl⟩ := h.only kl hkl
      refine ⟨x, List.mem_append_left _ (List.mem_filter.2 ⟨hx, ?_⟩), rfl⟩
      have : x.1 ≠ l := fun e' => e (by rw [e'])
      simpa using this
  · rcases List.mem_append.1 hx with hx | hx
    · have h1 := (List.mem_filter.1 hx).1
      have h2 : x.1 ≠ l := by simpa using (List.mem_filter.1 hx).2
      obtain ⟨t, h3, h4⟩ := h.held x h1
      exact ⟨t, fun z => by rw [atKey_put_other (hne x h1 h2)]; exact h3 z, h4⟩
    · rw [List.mem_singleton.1 hx]
      exact ⟨tb, fun z => atKey_put_same hD.isMap hlit _ z, ht⟩
theorem Holds.del {x : List Nat × Nat} (h : Holds Tb D (x :: kept)) (hD : Tidy D) (hinj : ∀ {a b : List Nat}, KeyOk a → KeyOk b → keyLit a = keyLit b → a = b) (hk : ∀ y ∈ x :: kept, KeyOk y.1) (hap : (x :: kept).Pairwise (fun x y => x.1 ≠ y.1)) : Holds Tb (D.del (keyLit x.1)) kept := by
  have hx : x ∈ x :: kept := List.mem_cons_self ..
  have hne : ∀ y ∈ kept, keyLit y.1 ≠ keyLit x.1 := fun y hy e => (List.pairwise_cons.1 hap).1 y hy (hinj (hk x hx) (hk y (List.mem_cons_of_mem _ hy)) e.symm)
  refine ⟨?_, fun kl hkl => ?_, fun y hy => ?_⟩
  · have := size_del (k := keyLit x.1) hD
    rw [h.has hx, h.size] at this
    simp at this
    exact this
  · by_cases e : kl = keyLit x.1
    · rw [e, has_del_same] at hkl; cases hkl
    · rw [has_del_other e] at hkl
      obtain ⟨y, hy, rfl⟩ := h.only kl hkl
      rcases List.mem_cons.1 hy with rfl | hy
      · exact absurd rfl e
      · exact ⟨y, hy, rfl⟩
  · obtain ⟨t, h3, h4⟩ := h.held y (List.mem_cons_of_mem _ hy)
    exact ⟨t, fun z => by rw [atKey_del_other (hne y hy)]; exact h3 z, h4⟩
end

/-- The search for the one that was asked for longest ago. -/
def OldAt (kept : List (List Nat × Nat)) (asked : Nat) (left : Lit → Bool) (o : List Nat) (ah : Nat) : Prop :=
  (∀ y ∈ kept, left (keyLit y.1) = false → ah ≤ y.2) ∧ (ah = asked + 1 ∨ ∃ x ∈ kept, o = x.1 ∧ ah = x.2)
section
variable {kept : List (List Nat × Nat)} {asked : Nat} {left : Lit → Bool} {o : List Nat} {ah : Nat}
theorem OldAt.start (h : ∀ y ∈ kept, left (keyLit y.1) = true) : OldAt kept asked left o (asked + 1) := ⟨fun y hy hl => (by rw [h y hy] at hl; cases hl), Or.inl rfl⟩
theorem OldAt.seen (h : OldAt kept asked left o ah) (hinj : ∀ {a b : List Nat}, KeyOk a → KeyOk b → keyLit a = keyLit b → a = b) (hk : ∀ x ∈ kept, KeyOk x.1) (hap : kept.Pairwise (fun x y => x.1 ≠ y.1)) {x : List Nat × Nat} (hx : x ∈ kept) {y : List Nat × Nat} (hy : y ∈ kept)
    (hl : (left (keyLit y.1) && !(keyLit y.1).sameKey (keyLit x.1)) = false) : ah ≤ y.2 ∨ y = x := by
  cases h1 : left (keyLit y.1) with
  | false => exact Or.inl (h.1 y hy h1)
  | true =>
    rw [h1] at hl
    have h2 : (keyLit y.1).sameKey (keyLit x.1) = true := by simpa using hl
    have h3 := hinj (hk y hy) (hk x hx) (WideAt.sameKey_eq h2)
    refine Or.inr ?_
    have key : ∀ (L : List (List Nat × Nat)), L.Pairwise (fun x y => x.1 ≠ y.1) → x ∈ L → y ∈ L → y = x := by
      intro L
      induction L with
      | nil => intro _ hx; simp at hx
      | cons a L ih =>
        intro hp hx hy
        obtain ⟨p1, p2⟩ := List.pairwise_cons.1 hp
        rcases List.mem_cons.1 hx with e1 | h1
        · rcases List.mem_cons.1 hy with e2 | h2
          · rw [e1, e2]
          · exact absurd h3.symm (e1 ▸ p1 y h2)
        · rcases List.mem_cons.1 hy with e2 | h2
          · exact absurd h3 (e2 ▸ p1 x h1)
          · exact ih p2 h1 h2
    exact key kept hap hx hy
theorem OldAt.less (h : OldAt kept asked left o ah) (hinj : ∀ {a b : List Nat}, KeyOk a → KeyOk b → keyLit a = keyLit b → a = b) (hk : ∀ x ∈ kept, KeyOk x.1) (hap : kept.Pairwise (fun x y => x.1 ≠ y.1)) {x : List Nat × Nat} (hx : x ∈ kept) (hlt : x.2 < ah) :
    OldAt kept asked (fun z => left z && !z.sameKey (keyLit x.1)) x.1 x.2 :=
  ⟨fun y hy hl => (by rcases h.seen hinj hk hap hx hy hl with h1 | rfl <;> omega), Or.inr ⟨x, hx, rfl, rfl⟩⟩
theorem OldAt.more (h : OldAt kept asked left o ah) (hinj : ∀ {a b : List Nat}, KeyOk a → KeyOk b → keyLit a = keyLit b → a = b) (hk : ∀ x ∈ kept, KeyOk x.1) (hap : kept.Pairwise (fun x y => x.1 ≠ y.1)) {x : List Nat × Nat} (hx : x ∈ kept) (hlt : ¬ x.2 < ah) :
    OldAt kept asked (fun z => left z && !z.sameKey (keyLit x.1)) o ah :=
  ⟨fun y hy hl => (by rcases h.seen hinj hk hap hx hy hl with h1 | rfl <;> omega), h.2⟩
theorem OldAt.last {x : List Nat × Nat} (h : OldAt (x :: kept) asked left o ah) (hl : ∀ kl, left kl = false) (hup : (x :: kept).Pairwise (fun x y => x.2 < y.2)) (htop : x.2 ≤ asked) : o = x.1 := by
  have h1 := h.1 x (List.mem_cons_self ..) (hl _)
  rcases h.2 with h2 | ⟨y, hy, rfl, h2⟩
  · omega
  · rcases List.mem_cons.1 hy with rfl | hy
    · rfl
    · have := (List.pairwise_cons.1 hup).1 y hy; omega
end

/-- No more entries than there are. -/
theorem tight {H : Type} {w : World} {P : Program} {k : TypeId} {R : Value → Option (DataW H × List MemPlace)} {b n : Nat} {D : DataW H} (h : w.ownsMap P k R b n D) : w.ownsMap P k R b (Maps.size D) D := by
  obtain ⟨es, clock, hb, F, _, rfl⟩ := h
  exact ⟨es, clock, hb, F, by simp [Maps.size, length_sorted], rfl⟩
end Go.Proofs.YtjjjlilflbddoaaGreatDoor
