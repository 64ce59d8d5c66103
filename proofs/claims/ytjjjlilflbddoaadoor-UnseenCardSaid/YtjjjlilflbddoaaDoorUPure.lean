import Derived.Test.YtjjjlilflbddoaaDoorPureP
import Derived.Test.YtjjjlilflbddoaaDoorPureT
import Derived.Test.YtjjjlilflbddoaaDoorRest
/-
  A decoder as a function: what it was fed since it began, and what it tells.
-/
namespace Go.Proofs.YtjjjlilflbddoaaDoor
namespace Gz

structure Dec where
  tc : Tc
  on : Bool
  lim : Nat
  data : List UInt8
  begun : Nat
  told : Nat

def Dec.new (cache : Nat) : Dec := ⟨Tc.new cache, false, 0, [], 0, 12⟩
/-- Where the machine stands behind all the data so far. -/
def Dec.at (x : Dec) : M := final x.data x.lim M.start
def Dec.begin (x : Dec) (lim : Nat) : Dec := { x with on := true, lim := lim, data := [], begun := 0, told := 2 }
def Dec.stop (x : Dec) (k : Nat) : Dec := { x with on := false, told := k }
/-- What was met, and all that was put out, with the data d. -/
def metBy (d : List UInt8) (lim : Nat) : Nat × List UInt8 := match step d lim (final d lim M.start) with
  | .error (k, o) => (k, o)
  | .ok m => (99, m.out)
def Dec.next (x : Dec) (p : List UInt8) : M := final (x.data ++ p) x.lim M.start
def Dec.fed (x : Dec) (p : List UInt8) : Dec := { x with data := x.data ++ p, tc := x.tc.asks ((x.next p).asks.drop x.at.asks.length) }
def Dec.feed (x : Dec) (p : List UInt8) : Dec × List UInt8 × Nat :=
  if x.on = false then (x, [], 12)
  else if 4000 < (x.data ++ p).length then (x.stop 1, [], 1)
  else if (metBy (x.data ++ p) x.lim).1 = 2 then (x.fed p, (metBy (x.data ++ p) x.lim).2.drop x.at.out.length, 0)
  else if (metBy (x.data ++ p) x.lim).1 = 0 then ({ (x.fed p).stop 0 with begun := ((x.next p).pos + 7) / 8 }, (metBy (x.data ++ p) x.lim).2.drop x.at.out.length, 0)
  else ((x.fed p).stop (metBy (x.data ++ p) x.lim).1, (metBy (x.data ++ p) x.lim).2.drop x.at.out.length, (metBy (x.data ++ p) x.lim).1)

theorem metBy_eq {d : List UInt8} {lim k : Nat} {o : List UInt8} (h : step d lim (final d lim M.start) = .error (k, o)) : metBy d lim = (k, o) := by unfold metBy; rw [h]
/-- What is kept is not seen in what is told. -/
theorem feed_alike (x y : Dec) (p : List UInt8) (h1 : x.on = y.on) (h2 : x.lim = y.lim) (h3 : x.data = y.data) : (x.feed p).2 = (y.feed p).2 := by
  unfold Dec.feed Dec.at
  rw [h1, h2, h3]
  split
  · rfl
  split
  · rfl
  split
  · rfl
  split
  · rfl
  · rfl
end Gz
end Go.Proofs.YtjjjlilflbddoaaDoor
/-
  Data cut into pieces: what a decoder puts out and tells, against the data read whole.
-/
namespace Go.Proofs.YtjjjlilflbddoaaDoor
namespace Gz

/-- But for the limit, a step that fails leaves what was put out as it was. -/
theorem step_same {d : List UInt8} {lim : Nat} {m : M} {k : Nat} {o : List UInt8} (h : step d lim m = .error (k, o)) (hk : k ≠ 8) : o = m.out := by
  have key : ∀ {α : Type} {r : Out α} {f : α → Nat → Step}, thenS r m.out f = .error (k, o) → (∀ a q, f a q = .error (k, o) → o = m.out) → o = m.out := by
    intro α r f h hf
    cases r with
    | error j => cases h; rfl
    | ok x => exact hf x.1 x.2 h
  unfold step at h
  split at h
  · refine key h fun a q h => ?_
    unfold headS at h
    split at h
    · cases h
    split at h
    · cases h
    split at h
    · cases h
    · cases h; rfl
  · exact key h fun a q h => by cases h
  · split at h
    · cases h
    refine key h fun a q h => ?_
    unfold byteS at h
    split at h
    · cases h; rfl
    · cases h
  · exact key h fun a q h => by cases h
  · split at h
    · cases h; rfl
    refine key h fun a q h => ?_
    unfold obeyS at h
    split at h
    · split at h
      · cases h; rfl
      · cases h
    split at h
    · cases h
    split at h
    · refine key h fun b q2 h => ?_
      unfold copyS at h
      split at h
      · cases h; rfl
      split at h
      · cases h; exact absurd rfl hk
      · cases h
    · cases h; rfl
  · cases h; rfl

/-- What a reader of pieces keeps: the decoder, what was put out, what was met first. -/
structure Pc where
  x : Dec
  out : List UInt8
  met : Nat
def Pc.next (s : Pc) (p : List UInt8) : Pc := ⟨(s.x.feed p).1, if s.met = 0 ∨ s.met = 12 then s.out ++ (s.x.feed p).2.1 else s.out, if s.met = 0 then (s.x.feed p).2.2 else s.met⟩
def Pc.fine (s : Pc) (p : List UInt8) : Prop := (s.met ≠ 0 → s.met ≠ 12 → (s.x.feed p).2.1 = []) ∧ (s.met ≠ 0 → (s.x.feed p).2.2 = 12)
/-- The decoder reads on. -/
def Pc.Runs (lim : Nat) (P : List UInt8) (s : Pc) : Prop := s.x.on = true ∧ s.met = 0 ∧ s.x.lim = lim ∧ s.x.data = P ∧ s.x.begun = 0 ∧ s.x.told = 2 ∧ (metBy P lim).1 = 2 ∧ s.out = s.x.at.out
/-- It has come to an end, by the first part of the data. -/
def Pc.Ends (lim : Nat) (P : List UInt8) (s : Pc) : Prop := s.x.on = false ∧ ∃ Q R k o, P = Q ++ R ∧ k ≠ 2 ∧ step Q lim (final Q lim M.start) = .error (k, o) ∧ s.x.told = k ∧
  (k = 0 → s.out = o ∧ s.x.begun = ((final Q lim M.start).pos + 7) / 8 ∧ (s.met = 0 ∨ s.met = 12)) ∧ (k ≠ 0 → s.met = k ∧ s.x.begun = 0)
def Pc.Good (lim : Nat) (P : List UInt8) (s : Pc) : Prop := s.Runs lim P ∨ s.Ends lim P

theorem start_short (lim : Nat) : metBy [] lim = (2, []) := by
  have h : step [] lim M.start = .error (2, []) := rfl
  unfold metBy; rw [final_bad h, h]
theorem good_start (x : Dec) (lim : Nat) : Pc.Good lim [] ⟨x.begin lim, [], 0⟩ := by
  refine .inl ⟨rfl, rfl, rfl, rfl, rfl, rfl, by rw [start_short], ?_⟩
  show [] = (final [] lim M.start).out
  have h : step [] lim M.start = .error (2, []) := rfl
  rw [final_bad h]; rfl
theorem good_next {lim : Nat} {P p : List UInt8} {s : Pc} (h : s.Good lim P) (hl : (P ++ p).length ≤ 4000) : (s.next p).Good lim (P ++ p) ∧ s.fine p := by
  rcases h with ⟨hon, hmet, hlim, hdat, hbg, htl, hm2, hout⟩ | ⟨hoff, Q, R, k, o, hP, hk, hst, htl, h0, h1⟩
  · obtain ⟨k, o, hk⟩ := final_end (P ++ p) lim M.start (Nat.zero_le _)
    have hmb := metBy_eq hk
    have hnx : s.x.next p = final (P ++ p) lim M.start := by unfold Dec.next; rw [hdat, hlim]
    have hat : s.x.at = final P lim M.start := by unfold Dec.at; rw [hdat, hlim]
    obtain ⟨y, hy⟩ : ∃ y, (final (P ++ p) lim M.start).out = s.x.at.out ++ y := by
      rw [hat, final_app P p lim M.start (Nat.zero_le _)]
      refine final_grow _ _ _ ?_
      have := (final_pos P lim M.start (Nat.zero_le _)).2
      rw [List.length_append]; omega
    obtain ⟨z, hz⟩ := step_grow.2 k o hk
    have hdrop : s.out ++ o.drop s.x.at.out.length = o := by rw [hout, hz, hy, List.append_assoc, List.drop_left]
    have hfine : s.fine p := ⟨fun h => absurd hmet h, fun h => absurd hmet h⟩
    refine ⟨?_, hfine⟩
    have hf : s.x.feed p = if k = 2 then (s.x.fed p, o.drop s.x.at.out.length, 0) else if k = 0 then ({ (s.x.fed p).stop 0 with begun := ((s.x.next p).pos + 7) / 8 }, o.drop s.x.at.out.length, 0) else ((s.x.fed p).stop k, o.drop s.x.at.out.length, k) := by
      unfold Dec.feed
      rw [if_neg (by rw [hon]; decide), hdat, hlim, if_neg (by omega), hmb]
    by_cases h2 : k = 2
    · subst h2
      rw [if_pos rfl] at hf
      refine .inl ?_
      unfold Pc.next Pc.Runs
      rw [hf]
      refine ⟨hon, by simp only [hmet, if_pos], hlim, by show s.x.data ++ p = _; rw [hdat], hbg, htl, by rw [hmb], ?_⟩
      show (if s.met = 0 ∨ s.met = 12 then s.out ++ o.drop s.x.at.out.length else s.out) = (final (s.x.data ++ p) s.x.lim M.start).out
      rw [if_pos (.inl hmet), hdrop, hdat, hlim]
      exact step_same hk (by decide)
    · rw [if_neg h2] at hf
      refine .inr ?_
      unfold Pc.next Pc.Ends
      by_cases h0 : k = 0
      · subst h0
        rw [if_pos rfl] at hf
        rw [hf]
        refine ⟨rfl, P ++ p, [], 0, o, by rw [List.append_nil], by decide, hk, rfl, fun _ => ⟨?_, ?_, ?_⟩, fun h => absurd rfl h⟩
        · show (if s.met = 0 ∨ s.met = 12 then s.out ++ o.drop s.x.at.out.length else s.out) = o
          rw [if_pos (.inl hmet), hdrop]
        · show ((s.x.next p).pos + 7) / 8 = _
          rw [hnx]
        · exact .inl (by simp only [hmet, if_pos])
      · rw [if_neg h0] at hf
        rw [hf]
        exact ⟨rfl, P ++ p, [], k, o, by rw [List.append_nil], h2, hk, rfl, fun h => absurd h h0, fun _ => ⟨by simp only [hmet, if_pos], hbg⟩⟩
  · have hf : s.x.feed p = (s.x, [], 12) := by unfold Dec.feed; rw [if_pos hoff]
    refine ⟨.inr ?_, ?_⟩
    · unfold Pc.next Pc.Ends
      rw [hf]
      refine ⟨hoff, Q, R ++ p, k, o, by rw [hP, List.append_assoc], hk, hst, htl, fun e => ?_, fun e => ?_⟩
      · obtain ⟨a, b, c⟩ := h0 e
        refine ⟨?_, b, ?_⟩
        · show (if s.met = 0 ∨ s.met = 12 then s.out ++ [] else s.out) = o
          rw [if_pos c, List.append_nil, a]
        · show (if s.met = 0 then 12 else s.met) = 0 ∨ (if s.met = 0 then 12 else s.met) = 12
          rcases c with c | c
          · rw [if_pos c]; exact .inr rfl
          · rw [if_neg (by omega)]; exact .inr c
      · obtain ⟨a, b⟩ := h1 e
        refine ⟨?_, b⟩
        show (if s.met = 0 then 12 else s.met) = k
        rw [if_neg (by omega), a]
    · unfold Pc.fine
      rw [hf]
      exact ⟨fun _ _ => rfl, fun _ => rfl⟩
/-- In the end: as Inflate tells. -/
theorem good_last {D : List UInt8} {lim : Nat} {s : Pc} (h : s.Good lim D) (hl : D.length ≤ 4000) (hlim : lim ≤ 6000) :
    ((inflate D lim).2.2 = 0 → s.out = (inflate D lim).1 ∧ s.x.begun = (inflate D lim).2.1 ∧ s.x.told = 0 ∧ (s.met = 0 ∨ s.met = 12)) ∧
    ((inflate D lim).2.2 = 2 → s.x.told = 2 ∧ s.met = 0 ∧ s.x.begun = 0) ∧
    ((inflate D lim).2.2 ≠ 0 → (inflate D lim).2.2 ≠ 2 → s.x.told = (inflate D lim).2.2 ∧ s.met = (inflate D lim).2.2 ∧ s.x.begun = 0) := by
  have hin : inflate D lim = match endOf D lim M.start with
    | .ok (o, p) => (o, (p + 7) / 8, 0)
    | .error k => ([], 0, k) := by
    unfold inflate
    rw [if_neg (by omega), if_neg (by omega), read_final]; rfl
  have hend : ∀ k o, step D lim (final D lim M.start) = .error (k, o) → endOf D lim M.start = if k = 0 then .ok (o, (final D lim M.start).pos) else .error k := by
    intro k o h
    unfold endOf
    rw [h]
    cases k with
    | zero => rw [if_pos rfl]
    | succ k => rw [if_neg (by omega)]
  rcases h with ⟨hon, hmet, hlim2, hdat, hbg, htl, hm2, hout⟩ | ⟨hoff, Q, R, k, o, hP, hk, hst, htl, h0, h1⟩
  · obtain ⟨k, o, hst⟩ := final_end D lim M.start (Nat.zero_le _)
    rw [metBy_eq hst] at hm2
    have hm3 : k = 2 := hm2
    subst hm3
    rw [hend 2 o hst, if_neg (by decide)] at hin
    rw [hin]
    exact ⟨fun h => absurd h (by decide), fun _ => ⟨htl, hmet, hbg⟩, fun _ h => absurd rfl h⟩
  · have hb := final_app_bad Q R lim (Nat.zero_le _) hst hk
    subst hP
    rw [hend k o hb.2] at hin
    by_cases hk0 : k = 0
    · subst hk0
      obtain ⟨a, b, c⟩ := h0 rfl
      rw [if_pos rfl] at hin
      rw [hin]
      refine ⟨fun _ => ⟨a, ?_, htl, c⟩, fun h => ?_, fun h => absurd rfl h⟩
      · show s.x.begun = ((final (Q ++ R) lim M.start).pos + 7) / 8
        rw [hb.1, b]
      · have h' : (0 : Nat) = 2 := h
        omega
    · obtain ⟨a, b⟩ := h1 hk0
      rw [if_neg hk0] at hin
      rw [hin]
      exact ⟨fun h => absurd h hk0, fun h => absurd h hk, fun _ _ => ⟨htl, a, b⟩⟩
end Gz
end Go.Proofs.YtjjjlilflbddoaaDoor
namespace Go.Proofs.YtjjjlilflbddoaaDoor
namespace Gz

theorem copyO_len (lim far : Nat) : ∀ n out, out.length ≤ lim → (copyO lim far n out).length ≤ lim
  | 0, out, h => h
  | n + 1, out, h => by
    unfold copyO
    split
    · exact h
    · refine copyO_len lim far n _ ?_
      rw [List.length_append]
      show out.length + 1 ≤ lim
      omega
/-- No step puts out beyond the limit. -/
theorem step_len {d : List UInt8} {lim : Nat} {m : M} (hm : m.out.length ≤ lim) : (∀ m', step d lim m = .ok m' → m'.out.length ≤ lim) ∧ ∀ k o, step d lim m = .error (k, o) → o.length ≤ lim := by
  have key : ∀ {α : Type} {r : Out α} {f : α → Nat → Step}, (∀ a q, (∀ m', f a q = .ok m' → m'.out.length ≤ lim) ∧ ∀ k o, f a q = .error (k, o) → o.length ≤ lim) →
      (∀ m', thenS r m.out f = .ok m' → m'.out.length ≤ lim) ∧ ∀ k o, thenS r m.out f = .error (k, o) → o.length ≤ lim := by
    intro α r f hf
    cases r with
    | error k => exact ⟨fun m' h => (by cases h), fun k' o h => (by cases h; exact hm)⟩
    | ok x => obtain ⟨a, q⟩ := x; exact hf a q
  have bad : ∀ (j : Nat), (∀ m', (Except.error (j, m.out) : Step) = .ok m' → m'.out.length ≤ lim) ∧ ∀ k o, (Except.error (j, m.out) : Step) = .error (k, o) → o.length ≤ lim :=
    fun j => ⟨fun m' h => (by cases h), fun k o h => by cases h; exact hm⟩
  have good : ∀ (m1 : M), m1.out.length ≤ lim → (∀ m', (Except.ok m1 : Step) = .ok m' → m'.out.length ≤ lim) ∧ ∀ k o, (Except.ok m1 : Step) = .error (k, o) → o.length ≤ lim :=
    fun m1 hx => ⟨fun m' h => by cases h; exact hx, fun k o h => (by cases h)⟩
  unfold step
  split
  · refine key fun a q => ?_
    unfold headS
    split
    · exact good _ hm
    split
    · exact good _ hm
    split
    · exact good _ hm
    · exact bad _
  · exact key fun a q => good _ hm
  · split
    · exact good _ hm
    refine key fun a q => ?_
    unfold byteS
    split
    · exact bad _
    · refine good _ ?_
      show (m.out ++ [_]).length ≤ lim
      rw [List.length_append]
      show m.out.length + 1 ≤ lim
      omega
  · exact key fun a q => good _ hm
  · split
    · exact bad _
    refine key fun a q => ?_
    unfold obeyS
    split
    · split
      · exact bad _
      · refine good _ ?_
        show (m.out ++ [_]).length ≤ lim
        rw [List.length_append]
        show m.out.length + 1 ≤ lim
        omega
    split
    · exact good _ hm
    split
    · refine key fun b q2 => ?_
      unfold copyS
      split
      · exact bad _
      split
      · exact ⟨fun m' h => (by cases h), fun k o h => by cases h; exact copyO_len _ _ _ _ hm⟩
      · exact good _ (copyO_len _ _ _ _ hm)
    · exact bad _
  · exact bad _
theorem final_len (d : List UInt8) (lim : Nat) : ∀ m, m.pos ≤ 8 * d.length → m.out.length ≤ lim → (final d lim m).out.length ≤ lim :=
  final_ind (fun m e _ h hm => by rw [final_bad h]; exact hm) (fun m m' hp h ih hm => by
    rw [final_ok h hp]
    exact ih (step_len hm |>.1 m' h))
theorem feed_len {lim : Nat} {P p : List UInt8} {s : Pc} (h : s.Good lim P) (hl : (P ++ p).length ≤ 4000) (ho : s.out.length ≤ lim) : (s.next p).out.length ≤ lim ∧ (s.x.feed p).2.1.length ≤ lim := by
  have hn := (good_next h hl).1
  rcases h with ⟨hon, hmet, hlim, hdat, hbg, htl, hm2, hout⟩ | ⟨hoff, _⟩
  · obtain ⟨k, o, hk⟩ := final_end (P ++ p) lim M.start (Nat.zero_le _)
    have hmb := metBy_eq hk
    have hol : o.length ≤ lim := (step_len (final_len (P ++ p) lim M.start (Nat.zero_le _) (Nat.zero_le _))).2 k o hk
    have hpl : (s.x.feed p).2.1 = o.drop s.x.at.out.length := by
      unfold Dec.feed
      rw [if_neg (by rw [hon]; decide), hdat, hlim, if_neg (by omega), hmb]
      split
      · rfl
      split
      · rfl
      · rfl
    have hl2 : (s.x.feed p).2.1.length ≤ lim := by rw [hpl, List.length_drop]; omega
    refine ⟨?_, hl2⟩
    have e : (s.next p).out = s.out ++ (s.x.feed p).2.1 := by
      show (if s.met = 0 ∨ s.met = 12 then s.out ++ (s.x.feed p).2.1 else s.out) = _
      rw [if_pos (.inl hmet)]
    have hat : s.x.at = final P lim M.start := by unfold Dec.at; rw [hdat, hlim]
    obtain ⟨y, hy⟩ : ∃ y, (final (P ++ p) lim M.start).out = s.x.at.out ++ y := by
      rw [hat, final_app P p lim M.start (Nat.zero_le _)]
      refine final_grow _ _ _ ?_
      have := (final_pos P lim M.start (Nat.zero_le _)).2
      rw [List.length_append]; omega
    obtain ⟨z, hz⟩ := step_grow.2 k o hk
    have hdrop : s.out ++ o.drop s.x.at.out.length = o := by rw [hout, hz, hy, List.append_assoc, List.drop_left]
    rw [e, hpl, hdrop]
    exact hol
  · have hf : s.x.feed p = (s.x, [], 12) := by unfold Dec.feed; rw [if_pos hoff]
    refine ⟨?_, by rw [hf]; exact Nat.zero_le _⟩
    show (if s.met = 0 ∨ s.met = 12 then s.out ++ (s.x.feed p).2.1 else s.out).length ≤ lim
    rw [hf]
    split
    · rw [List.append_nil]; exact ho
    · exact ho
end Gz
end Go.Proofs.YtjjjlilflbddoaaDoor
