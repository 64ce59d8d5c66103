import Derived.Test.YtjjjlilflbddoaaDoorKeys
import Derived.Test.YtjjjlilflbddoaaDoorPureT
/-
  A map that holds just what is kept.
-/
namespace Go.Proofs.YtjjjlilflbddoaaDoor
open Go.Maps Go.WideMaps

abbrev Dx : Type := DataW (Option Addr × Int)
/-- A key as the lengths are. -/
def KeyOk (l : List Nat) : Prop := l.length = 320 ∧ Lens l
theorem KeyOk.byte {l : List Nat} (h : KeyOk l) : ∀ i, i < l.length → l.getD i 0 ≤ 255 := fun i hi => Nat.le_trans (h.2 i hi) (by decide)

structure Holds (Tb : Nat → List Nat → Prop) (D : Dx) (kept : List (List Nat × Nat)) : Prop where
  size : Maps.size D = kept.length
  only : ∀ kl, Maps.has D kl = true → ∃ x ∈ kept, kl = keyLit x.1
  held : ∀ x ∈ kept, ∃ tb, (∀ z, D.atKey (keyLit x.1) z = .held (some ⟨tb, 0, none⟩, (x.2 : Int))) ∧ Tb tb x.1

theorem holds_nil (Tb : Nat → List Nat → Prop) : Holds Tb (.map []) [] := ⟨rfl, fun kl h => (by cases h), fun x hx => (by simp at hx)⟩
section
variable {Tb Tb' : Nat → List Nat → Prop} {D : Dx} {kept : List (List Nat × Nat)}
theorem Holds.mono (h : Holds Tb D kept) (hT : ∀ tb l, Tb tb l → Tb' tb l) : Holds Tb' D kept :=
  ⟨h.size, h.only, fun x hx => let ⟨tb, h1, h2⟩ := h.held x hx; ⟨tb, h1, hT _ _ h2⟩⟩
theorem Holds.has (h : Holds Tb D kept) {x : List Nat × Nat} (hx : x ∈ kept) : Maps.has D (keyLit x.1) = true := by
  obtain ⟨tb, h1, _⟩ := h.held x hx
  exact has_true_of_atKey h1
theorem Holds.hit (h : Holds Tb D kept) (hinj : ∀ {a b : List Nat}, KeyOk a → KeyOk b → keyLit a = keyLit b → a = b) (hk : ∀ x ∈ kept, KeyOk x.1) {l : List Nat} (hl : KeyOk l) : Maps.has D (keyLit l) = kept.any (fun x => x.1 == l) := by
  rw [Bool.eq_iff_iff]
  constructor
  · intro h1
    obtain ⟨x, hx, e⟩ := h.only _ h1
    exact List.any_eq_true.2 ⟨x, hx, by simp [hinj hl (hk x hx) e]⟩
  · intro h1
    obtain ⟨x, hx, e⟩ := List.any_eq_true.1 h1
    have e : x.1 = l := by simpa using e
    exact e ▸ h.has hx
theorem Holds.put (h : Holds Tb D kept) (hD : Tidy D) (hinj : ∀ {a b : List Nat}, KeyOk a → KeyOk b → keyLit a = keyLit b → a = b) (hk : ∀ x ∈ kept, KeyOk x.1) (hap : kept.Pairwise (fun x y => x.1 ≠ y.1)) {l : List Nat} (hl : KeyOk l) {tb : Nat} (ht : Tb tb l) (a : Nat) :
    Holds Tb (D.put (keyLit l) (.held (some ⟨tb, 0, none⟩, (a : Int)))) ((kept.filter fun x => !(x.1 == l)) ++ [(l, a)]) := by
  have hlit : WideAt.IsKeyLit (keyLit l) := trivial
  have hne : ∀ x ∈ kept, x.1 ≠ l → keyLit x.1 ≠ keyLit l := fun x hx hn e => hn (hinj (hk x hx) hl e)
  refine ⟨?_, fun kl hkl => ?_, fun x hx => ?_⟩
  · rw [size_put hD, h.hit hinj hk hl, h.size, List.length_append, List.length_singleton]
    have := Gz.filter_hit (l := l) hap
    cases hh : kept.any (fun x => x.1 == l) with
    | true => rw [hh] at this; simp only [if_true] at this ⊢; omega
    | false => rw [hh] at this; simp only [Bool.false_eq_true, if_false] at this ⊢; omega
  · by_cases e : kl = keyLit l
    · exact ⟨(l, a), by simp, e⟩
    · rw [has_put_other e] at hkl
      obtain ⟨x, hx, rfl⟩ := h.only kl hkl
      refine ⟨x, List.mem_append_left _ (List.mem_filter.2 ⟨hx, ?_⟩), rfl⟩
      have : x.1 ≠ l := fun e' => e (by rw [e'])
      simpa using this
  · rcases List.mem_append.1 hx with hx | hx
    · have h1 := (List.mem_filter.1 hx).1
      have h2 : x.1 ≠ l := by simpa using (List.mem_filter.1 hx).2
      obtain ⟨t, h3, h4⟩ := h.held x h1
      exact ⟨t, fun z => by rw [atKey_put_other (hne x h1 h2)]; exact h3 z, h4⟩
    · rw [List.mem_singleton.1 hx]
      exact ⟨tb, fun z => atKey_put_same hD.isMap hlit _ z, ht⟩
theorem Holds.del {x : List Nat × Nat} (h : Holds Tb D (x :: kept)) (hD : Tidy D) (hinj : ∀ {a b : List Nat}, KeyOk a → KeyOk b → keyLit a = keyLit b → a = b) (hk : ∀ y ∈ x :: kept, KeyOk y.1) (hap : (x :: kept).Pairwise (fun x y => x.1 ≠ y.1)) : Holds Tb (D.del (keyLit x.1)) kept := by
  have hx : x ∈ x :: kept := List.mem_cons_self ..
  have hne : ∀ y ∈ kept, keyLit y.1 ≠ keyLit x.1 := fun y hy e => (List.pairwise_cons.1 hap).1 y hy (hinj (hk x hx) (hk y (List.mem_cons_of_mem _ hy)) e.symm)
  refine ⟨?_, fun kl hkl => ?_, fun y hy => ?_⟩
  · have := size_del (k := keyLit x.1) hD
    rw [h.has hx, h.size] at this
    simp at this
    exact this
  · by_cases e : kl = keyLit x.1
    · rw [e, has_del_same] at hkl; cases hkl
    · rw [has_del_other e] at hkl
      obtain ⟨y, hy, rfl⟩ := h.only kl hkl
      rcases List.mem_cons.1 hy with rfl | hy
      · exact absurd rfl e
      · exact ⟨y, hy, rfl⟩
  · obtain ⟨t, h3, h4⟩ := h.held y (List.mem_cons_of_mem _ hy)
    exact ⟨t, fun z => by rw [atKey_del_other (hne y hy)]; exact h3 z, h4⟩
end

/-- The search for the one that was asked for longest ago. -/
def OldAt (kept : List (List Nat × Nat)) (asked : Nat) (left : Lit → Bool) (o : List Nat) (ah : Nat) : Prop :=
  (∀ y ∈ kept, left (keyLit y.1) = false → ah ≤ y.2) ∧ (ah = asked + 1 ∨ ∃ x ∈ kept, o = x.1 ∧ ah = x.2)
section
variable {kept : List (List Nat × Nat)} {asked : Nat} {left : Lit → Bool} {o : List Nat} {ah : Nat}
theorem OldAt.start (h : ∀ y ∈ kept, left (keyLit y.1) = true) : OldAt kept asked left o (asked + 1) := ⟨fun y hy hl => (by rw [h y hy] at hl; cases hl), Or.inl rfl⟩
theorem OldAt.seen (h : OldAt kept asked left o ah) (hinj : ∀ {a b : List Nat}, KeyOk a → KeyOk b → keyLit a = keyLit b → a = b) (hk : ∀ x ∈ kept, KeyOk x.1) (hap : kept.Pairwise (fun x y => x.1 ≠ y.1)) {x : List Nat × Nat} (hx : x ∈ kept) {y : List Nat × Nat} (hy : y ∈ kept)
    (hl : (left (keyLit y.1) && !(keyLit y.1).sameKey (keyLit x.1)) = false) : ah ≤ y.2 ∨ y = x := by
  cases h1 : left (keyLit y.1) with
  | false => exact Or.inl (h.1 y hy h1)
  | true =>
    rw [h1] at hl
    have h2 : (keyLit y.1).sameKey (keyLit x.1) = true := by simpa using hl
    have h3 := hinj (hk y hy) (hk x hx) (WideAt.sameKey_eq h2)
    refine Or.inr ?_
    have key : ∀ (L : List (List Nat × Nat)), L.Pairwise (fun x y => x.1 ≠ y.1) → x ∈ L → y ∈ L → y = x := by
      intro L
      induction L with
      | nil => intro _ hx; simp at hx
      | cons a L ih =>
        intro hp hx hy
        obtain ⟨p1, p2⟩ := List.pairwise_cons.1 hp
        rcases List.mem_cons.1 hx with e1 | h1
        · rcases List.mem_cons.1 hy with e2 | h2
          · rw [e1, e2]
          · exact absurd h3.symm (e1 ▸ p1 y h2)
        · rcases List.mem_cons.1 hy with e2 | h2
          · exact absurd h3 (e2 ▸ p1 x h1)
          · exact ih p2 h1 h2
    exact key kept hap hx hy
theorem OldAt.less (h : OldAt kept asked left o ah) (hinj : ∀ {a b : List Nat}, KeyOk a → KeyOk b → keyLit a = keyLit b → a = b) (hk : ∀ x ∈ kept, KeyOk x.1) (hap : kept.Pairwise (fun x y => x.1 ≠ y.1)) {x : List Nat × Nat} (hx : x ∈ kept) (hlt : x.2 < ah) :
    OldAt kept asked (fun z => left z && !z.sameKey (keyLit x.1)) x.1 x.2 :=
  ⟨fun y hy hl => (by rcases h.seen hinj hk hap hx hy hl with h1 | rfl <;> omega), Or.inr ⟨x, hx, rfl, rfl⟩⟩
theorem OldAt.more (h : OldAt kept asked left o ah) (hinj : ∀ {a b : List Nat}, KeyOk a → KeyOk b → keyLit a = keyLit b → a = b) (hk : ∀ x ∈ kept, KeyOk x.1) (hap : kept.Pairwise (fun x y => x.1 ≠ y.1)) {x : List Nat × Nat} (hx : x ∈ kept) (hlt : ¬ x.2 < ah) :
    OldAt kept asked (fun z => left z && !z.sameKey (keyLit x.1)) o ah :=
  ⟨fun y hy hl => (by rcases h.seen hinj hk hap hx hy hl with h1 | rfl <;> omega), h.2⟩
theorem OldAt.last {x : List Nat × Nat} (h : OldAt (x :: kept) asked left o ah) (hl : ∀ kl, left kl = false) (hup : (x :: kept).Pairwise (fun x y => x.2 < y.2)) (htop : x.2 ≤ asked) : o = x.1 := by
  have h1 := h.1 x (List.mem_cons_self ..) (hl _)
  rcases h.2 with h2 | ⟨y, hy, rfl, h2⟩
  · omega
  · rcases List.mem_cons.1 hy with rfl | hy
    · rfl
    · have := (List.pairwise_cons.1 hup).1 y hy; omega
end

/-- No more entries than there are. -/
theorem tight {H : Type} {w : World} {P : Program} {k : TypeId} {R : Value → Option (DataW H × List MemPlace)} {b n : Nat} {D : DataW H} (h : w.ownsMap P k R b n D) : w.ownsMap P k R b (Maps.size D) D := by
  obtain ⟨es, clock, hb, F, _, rfl⟩ := h
  exact ⟨es, clock, hb, F, by simp [Maps.size, length_sorted], rfl⟩
end Go.Proofs.YtjjjlilflbddoaaDoor
