import Derived.Test.YtjjjlilflbddoaaDoorPure2
/-
  The tables that are kept, as a list: the key, and when it was asked for last; the one that was asked for longest ago is the first.
-/
namespace Go.Proofs.YtjjjlilflbddoaaDoor
namespace Gz

structure Tc where
  most : Nat
  made : Nat
  asked : Nat
  kept : List (List Nat × Nat)

def Tc.new (most : Nat) : Tc := ⟨most, 0, 0, []⟩
def Tc.drop (c : Tc) : Tc := { c with kept := [] }
def Tc.hit (c : Tc) (l : List Nat) : Bool := c.kept.any fun x => x.1 == l
def Tc.turn (c : Tc) (l : List Nat) : List (List Nat × Nat) := (c.kept.filter fun x => !(x.1 == l)) ++ [(l, c.asked + 1)]
def Tc.ask (c : Tc) (l : List Nat) : Tc :=
  { most := c.most, made := if c.hit l then c.made else c.made + 1, asked := c.asked + 1, kept := if c.most < (c.turn l).length then (c.turn l).drop 1 else c.turn l }
def Tc.asks (c : Tc) (ls : List (List Nat)) : Tc := ls.foldl Tc.ask c

structure Tc.Ok (c : Tc) : Prop where
  most : c.most ≤ 16
  len : c.kept.length ≤ c.most
  made : c.made ≤ c.asked
  up : c.kept.Pairwise (fun x y => x.2 < y.2)
  top : ∀ x ∈ c.kept, x.2 ≤ c.asked
  apart : c.kept.Pairwise (fun x y => x.1 ≠ y.1)
  keys : ∀ x ∈ c.kept, x.1.length = 320 ∧ Lens x.1

theorem Tc.ok_new {n : Nat} (h : n ≤ 16) : (Tc.new n).Ok := ⟨h, Nat.zero_le _, Nat.le_refl _, List.Pairwise.nil, by simp [Tc.new], List.Pairwise.nil, by simp [Tc.new]⟩
theorem Tc.Ok.drop {c : Tc} (h : c.Ok) : c.drop.Ok := ⟨h.most, Nat.zero_le _, h.made, List.Pairwise.nil, by simp [Tc.drop], List.Pairwise.nil, by simp [Tc.drop]⟩

section
variable {c : Tc} {l : List Nat}
theorem Tc.Ok.turn_up (h : c.Ok) : (c.turn l).Pairwise (fun x y => x.2 < y.2) := by
  refine List.pairwise_append.2 ⟨h.up.filter _, List.pairwise_singleton _ _, fun x hx y hy => ?_⟩
  have hx' := h.top x (List.mem_filter.1 hx).1
  rw [List.mem_singleton.1 hy]
  show x.2 < c.asked + 1
  omega
theorem Tc.Ok.turn_apart (h : c.Ok) : (c.turn l).Pairwise (fun x y => x.1 ≠ y.1) := by
  refine List.pairwise_append.2 ⟨h.apart.filter _, List.pairwise_singleton _ _, fun x hx y hy => ?_⟩
  have hx' := (List.mem_filter.1 hx).2
  rw [List.mem_singleton.1 hy]
  simpa using hx'
theorem Tc.Ok.turn_top (h : c.Ok) : ∀ x ∈ c.turn l, x.2 ≤ c.asked + 1 := by
  intro x hx
  rcases List.mem_append.1 hx with hx | hx
  · have := h.top x (List.mem_filter.1 hx).1; omega
  · rw [List.mem_singleton.1 hx]; exact Nat.le_refl _
theorem Tc.Ok.turn_keys (h : c.Ok) (hn : l.length = 320) (hl : Lens l) : ∀ x ∈ c.turn l, x.1.length = 320 ∧ Lens x.1 := by
  intro x hx
  rcases List.mem_append.1 hx with hx | hx
  · exact h.keys x (List.mem_filter.1 hx).1
  · rw [List.mem_singleton.1 hx]; exact ⟨hn, hl⟩
theorem Tc.Ok.turn_len (h : c.Ok) : (c.turn l).length ≤ c.most + 1 := by
  have h1 := List.length_filter_le (fun x : List Nat × Nat => !(x.1 == l)) c.kept
  have h2 := h.len
  simp only [Tc.turn, List.length_append, List.length_singleton]
  omega
/-- How many there are behind an asking: no more if it is there. -/
theorem filter_hit {l : List Nat} : ∀ {L : List (List Nat × Nat)}, L.Pairwise (fun x y => x.1 ≠ y.1) → (L.filter fun x => !(x.1 == l)).length + (if L.any (fun x => x.1 == l) then 1 else 0) = L.length
  | [], _ => rfl
  | x :: L, h => by
    obtain ⟨h1, h2⟩ := List.pairwise_cons.1 h
    have ih := filter_hit (l := l) h2
    by_cases hx : x.1 = l
    · have hno : L.any (fun x => x.1 == l) = false := by
        rw [Bool.eq_false_iff]
        intro ht
        obtain ⟨y, hy, hyl⟩ := List.any_eq_true.1 ht
        have hyl : y.1 = l := by simpa using hyl
        exact h1 y hy (hx.trans hyl.symm)
      rw [hno] at ih
      simp [hx] at ih ⊢
      exact ih
    · have hb : (x.1 == l) = false := by simpa using hx
      rw [List.filter_cons, List.any_cons, hb]
      simp only [Bool.not_false, if_true, Bool.false_or, List.length_cons]
      omega
theorem Tc.Ok.ask (h : c.Ok) (hn : l.length = 320) (hl : Lens l) : (c.ask l).Ok := by
  have h1 := h.turn_len (l := l)
  refine ⟨h.most, ?_, ?_, ?_, ?_, ?_, ?_⟩
  · show (if c.most < (c.turn l).length then (c.turn l).drop 1 else c.turn l).length ≤ c.most
    split
    · rw [List.length_drop]; omega
    · omega
  · show (if c.hit l then c.made else c.made + 1) ≤ c.asked + 1
    have := h.made
    split <;> omega
  · show (if c.most < (c.turn l).length then (c.turn l).drop 1 else c.turn l).Pairwise _
    split
    · exact h.turn_up.sublist (List.drop_sublist _ _)
    · exact h.turn_up
  · intro x hx
    have hx : x ∈ (if c.most < (c.turn l).length then (c.turn l).drop 1 else c.turn l) := hx
    split at hx
    · exact h.turn_top x (List.mem_of_mem_drop hx)
    · exact h.turn_top x hx
  · show (if c.most < (c.turn l).length then (c.turn l).drop 1 else c.turn l).Pairwise _
    split
    · exact h.turn_apart.sublist (List.drop_sublist _ _)
    · exact h.turn_apart
  · intro x hx
    have hx : x ∈ (if c.most < (c.turn l).length then (c.turn l).drop 1 else c.turn l) := hx
    split at hx
    · exact h.turn_keys hn hl x (List.mem_of_mem_drop hx)
    · exact h.turn_keys hn hl x hx
theorem Tc.asks_app (c : Tc) (a b : List (List Nat)) : c.asks (a ++ b) = (c.asks a).asks b := List.foldl_append
theorem Tc.asked_ask (c : Tc) (l : List Nat) : (c.ask l).asked = c.asked + 1 := rfl
theorem Tc.asked_asks (ls : List (List Nat)) : ∀ c : Tc, (c.asks ls).asked = c.asked + ls.length := by
  induction ls with
  | nil => intro c; rfl
  | cons a r ih => intro c; show ((c.ask a).asks r).asked = _; rw [ih, Tc.asked_ask, List.length_cons]; omega
end
end Gz
end Go.Proofs.YtjjjlilflbddoaaDoor
