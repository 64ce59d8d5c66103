import Derived.WideKeyArr
import Derived.Maps.OwnSet
import Derived.Maps.RangeWalk
/-
  Keys that are arrays of bytes: what they read as; elements that are a pointer and a number.
-/
namespace Go.Proofs.YtjjjlilflbddoaaDoor
open Go.Maps Go.WideMaps

def ku (n : Nat) : Value := .int .u8 n
def kus (l : List Nat) : Array Value := (l.map ku).toArray
def keyLit (l : List Nat) : Lit := .string (keyBytes (l.map fun n => .int .u8 (n : Nat)))

section
variable {P : Program} {k e : TypeId} {n : Nat}

theorem mapM_range_one {α : Type} (f : List Value → Option α) : ∀ (cs : List Value) (m : Nat), (List.range' m (cs.length)).mapM (fun i => f ((((List.replicate m Value.nilIface) ++ cs).drop (i * 1)).take 1)) = cs.mapM (fun c => f [c])
  | [], m => rfl
  | c :: cs, m => by
    have ih := mapM_range_one f cs (m + 1)
    rw [List.length_cons, List.range'_succ, List.mapM_cons, List.mapM_cons]
    have e1 : (((List.replicate m Value.nilIface) ++ c :: cs).drop (m * 1)).take 1 = [c] := by simp
    have e2 : (List.range' (m + 1) cs.length).mapM (fun i => f ((((List.replicate m Value.nilIface) ++ c :: cs).drop (i * 1)).take 1)) = (List.range' (m + 1) cs.length).mapM (fun i => f ((((List.replicate (m + 1) Value.nilIface) ++ cs).drop (i * 1)).take 1)) := by
      have hcong : ∀ (L : List Nat), (∀ i ∈ L, m + 1 ≤ i) → L.mapM (fun i => f ((((List.replicate m Value.nilIface) ++ c :: cs).drop (i * 1)).take 1)) = L.mapM (fun i => f ((((List.replicate (m + 1) Value.nilIface) ++ cs).drop (i * 1)).take 1)) := by
        intro L
        induction L with
        | nil => intro _; rfl
        | cons i L ih =>
          intro h
          rw [List.mapM_cons, List.mapM_cons, ih (fun j hj => h j (List.mem_cons_of_mem _ hj))]
          have hi := h i (List.mem_cons_self ..)
          have e3 : ((List.replicate m Value.nilIface) ++ c :: cs).drop (i * 1) = ((List.replicate (m + 1) Value.nilIface) ++ cs).drop (i * 1) := by
            have e4 : (List.replicate m Value.nilIface).drop (i * 1) = [] := List.drop_eq_nil_of_le (by simp; omega)
            have e5 : (List.replicate (m + 1) Value.nilIface).drop (i * 1) = [] := List.drop_eq_nil_of_le (by simp; omega)
            rw [List.drop_append, List.drop_append, List.length_replicate, List.length_replicate, e4, e5, show i * 1 - m = (i * 1 - (m + 1)) + 1 by omega, List.drop_succ_cons]
          rw [e3]
      exact hcong _ (fun i hi => by have := List.mem_range'.1 hi; omega)
    rw [e1, e2, ih]

theorem mapM_range (f : List Value → Option (List Lit)) (cs : List Value) : (List.range cs.length).mapM (fun i => f ((cs.drop (i * 1)).take 1)) = cs.mapM (fun c => f [c]) := by
  have := mapM_range_one f cs 0
  rw [List.range_eq_range']
  simpa using this

theorem lit_u8 (x : Int) : (Lit.int .u8 x).wf = true ↔ 0 ≤ x ∧ x < 256 := by
  have h1 : IntKind.u8.min = 0 := rfl
  have h2 : IntKind.u8.max = 255 := rfl
  simp only [Lit.wf, h1, h2]
  simp
  omega

theorem keyLits_mk (he : P.underlying e = some (.int .u8)) (D : Nat) : ∀ l : List Nat, (∀ i, i < l.length → l.getD i 0 ≤ 255) → (l.map ku).mapM (fun c => P.keyLits (D + 1) e [c]) = some (l.map fun n => [Lit.int .u8 (n : Nat)])
  | [], _ => rfl
  | a :: l, h => by
    have ih := keyLits_mk he D l (fun i hi => by have := h (i + 1) (by simp; omega); simpa [List.getD] using this)
    have ha : a ≤ 255 := by have := h 0 (by simp); simpa using this
    have hw : (Lit.int .u8 (a : Nat)).wf = true := (lit_u8 _).2 (by omega)
    rw [List.map_cons, List.mapM_cons, ih]
    simp [Program.keyLits, ku, he, hw]

theorem keyLits_inv (he : P.underlying e = some (.int .u8)) (D : Nat) : ∀ (cs : List Value) (xs : List (List Lit)), cs.mapM (fun c => P.keyLits (D + 1) e [c]) = some xs → ∃ l : List Nat, cs = l.map ku ∧ (∀ i, i < l.length → l.getD i 0 ≤ 255)
  | [], _, _ => ⟨[], rfl, fun i hi => by simp at hi⟩
  | c :: cs, xs, h => by
    rw [List.mapM_cons] at h
    simp only [bind, Option.bind_eq_some_iff, pure, Option.some.injEq] at h
    obtain ⟨y, hy, ys, hys, rfl⟩ := h
    obtain ⟨l, rfl, hl⟩ := keyLits_inv he D cs ys hys
    unfold Program.keyLits at hy
    rw [he] at hy
    cases c <;> simp at hy
    rename_i q a
    obtain ⟨⟨rfl, hw⟩, _⟩ := hy
    have h2 := (lit_u8 a).1 hw
    refine ⟨a.toNat :: l, ?_, fun i hi => ?_⟩
    · simp [ku]; omega
    · cases i with
      | zero => simp; omega
      | succ i => have := hl i (by simpa using hi); simpa [List.getD] using this

theorem flat_one (l : List Nat) : (l.map fun n => [Lit.int .u8 (n : Nat)]).flatten = l.map fun n => Lit.int .u8 (n : Nat) := by
  induction l with
  | nil => rfl
  | cons a l ih => simp [ih]

theorem key_mk (A : ArrKey P k e n) (he : P.underlying e = some (.int .u8)) (hsz : ∃ m, P.types.size = m + 1) {l : List Nat} (hn : l.length = n) (hl : ∀ i, i < l.length → l.getD i 0 ≤ 255) : keyOf P k (.agg (kus l)) = some (keyLit l) := by
  have hkt := A.keyType hsz
  obtain ⟨m, hm⟩ := hsz
  have hs : (kus l).size = n := by simp [kus, hn]
  unfold keyOf
  simp only [A.hu]
  rw [if_pos (by simp [hkt, Value.formed, A.hu, A.size, hs]), hm]
  unfold Program.keyLits
  simp only [A.hu, Value.cells]
  rw [if_pos (by rw [A.size]; simpa using hs), A.one]
  have e1 := mapM_range (fun cs => P.keyLits (m + 1) e cs) (kus l).toList
  have e2 : (kus l).toList = l.map ku := rfl
  rw [e2, List.length_map, hn, keyLits_mk he m l hl] at e1
  rw [e2, e1]
  simp only [Option.map_some, flat_one]
  rfl

theorem key_inv (A : ArrKey P k e n) (he : P.underlying e = some (.int .u8)) (hsz : ∃ m, P.types.size = m + 1) {v : Value} {kl : Lit} (h : keyOf P k v = some kl) : ∃ l : List Nat, v = .agg (kus l) ∧ l.length = n ∧ (∀ i, i < l.length → l.getD i 0 ≤ 255) ∧ kl = keyLit l := by
  have hkt := A.keyType hsz
  have hsz' := hsz
  obtain ⟨m, hm⟩ := hsz
  have h0 := h
  unfold keyOf at h
  simp only [A.hu] at h
  split at h
  · rename_i hc
    simp only [hkt, Bool.true_and] at hc
    cases v <;> simp [Value.formed, A.hu, A.size] at hc
    rename_i cs
    rw [hm] at h
    unfold Program.keyLits at h
    simp only [A.hu, Value.cells] at h
    rw [if_pos (by rw [A.size]; simpa using hc), A.one] at h
    have e1 := mapM_range (fun cs => P.keyLits (m + 1) e cs) cs.toList
    rw [show cs.toList.length = n by simpa using hc] at e1
    rw [e1] at h
    cases hx : cs.toList.mapM (fun c => P.keyLits (m + 1) e [c]) with
    | none => rw [hx] at h; simp at h
    | some xs =>
      obtain ⟨l, e2, hl⟩ := keyLits_inv he m _ _ hx
      have hcs : cs = kus l := by rw [kus, ← e2]
      have hln : l.length = n := by rw [← hc, hcs]; simp [kus]
      subst hcs
      refine ⟨l, rfl, hln, hl, ?_⟩
      have h3 := key_mk A he hsz' hln hl
      rw [h0] at h3
      exact Option.some.inj h3
  · cases h

theorem kus_inj {l l' : List Nat} (h : kus l = kus l') : l = l' := by
  have h1 : (l.map ku) = (l'.map ku) := by simpa [kus] using h
  have h2 : ∀ {a b : Nat}, ku a = ku b → a = b := fun h => by unfold ku at h; injection h with _ h; exact Int.ofNat.inj h
  exact (List.map_inj_right (fun _ _ h => h2 h)).1 h1
theorem keyLit_inj (A : ArrKey P k e n) (he : P.underlying e = some (.int .u8)) (hsz : ∃ m, P.types.size = m + 1) {l l' : List Nat} (hn : l.length = n) (hl : ∀ i, i < l.length → l.getD i 0 ≤ 255) (hn' : l'.length = n) (hl' : ∀ i, i < l'.length → l'.getD i 0 ≤ 255) (h : keyLit l = keyLit l') : l = l' := by
  have h1 := key_mk A he hsz hn hl
  have h2 := key_mk A he hsz hn' hl'
  rw [h] at h1
  have h3 := A.law.inj h1 h2
  injection h3 with h4
  exact kus_inj h4
end

/-- An element: a pointer and a number. -/
def mkE (x : Option Addr × Int) : Value := .agg #[.pointer x.1, .int .i64 x.2]
def RE (v : Value) : Option (DataW (Option Addr × Int) × List MemPlace) :=
  match v with
  | .agg cs => match cs.toList with
    | [.pointer p, .int .i64 a] => some (.held (p, a), [])
    | _ => none
  | _ => none
theorem RE_mk (x : Option Addr × Int) : RE (mkE x) = some (.held x, []) := rfl
theorem RE_inv {v : Value} {y : DataW (Option Addr × Int) × List MemPlace} (h : RE v = some y) : ∃ x, v = mkE x ∧ y = (.held x, []) := by
  unfold RE at h
  split at h
  · rename_i cs
    split at h
    · rename_i p a hc
      refine ⟨(p, a), ?_, (Option.some.inj h).symm⟩
      have : cs = #[.pointer p, .int .i64 a] := by
        cases cs with
        | mk l => simp only at hc; rw [hc]
      rw [this]; rfl
    · cases h
  · cases h
end Go.Proofs.YtjjjlilflbddoaaDoor
