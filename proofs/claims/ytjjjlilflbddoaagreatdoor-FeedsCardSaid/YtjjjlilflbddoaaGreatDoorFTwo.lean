import Derived.Test.YtjjjlilflbddoaaGreatDoorFDec
namespace Go.Proofs.YtjjjlilflbddoaaGreatDoor
open Go.RowKit

/-- New blocks leave a decoder as it is, and may be among those that stay. -/
theorem DecAt.still {sp : Nat → Addr} {B dcb tsb mb : Nat} {K G : List Nat} {x : Gz.Dec} {w w' : World} (h : DecAt sp B dcb tsb mb K x w) (f : Fr No w w') (hG : ∀ g ∈ G, w.heap.size ≤ g ∧ g < w'.heap.size) : DecAt sp B dcb tsb mb (G ++ K) x w' := by
  have hsz := f.size
  have hnew : ∀ {k : Nat} {K0 : List Nat}, k < w.heap.size → k ∉ K0 → k ∉ G ++ K0 := fun hk hn hm => by
    rcases List.mem_append.1 hm with hm | hm
    · have := (hG _ hm).1; omega
    · exact hn hm
  have hdl : dcb < w.heap.size := by
    cases hon : x.on with
    | false => obtain ⟨room, _, hb⟩ := h.off hon; exact lt_of hb
    | true => obtain ⟨rb, s, mL, hb, _⟩ := h.on hon; exact lt_of hb
  have htabs : ∀ {K0 : List Nat} {c : Gz.Tc}, TabsAt w K0 tsb mb c → TabsAt w' (G ++ K0) tsb mb c := fun hT => (hT.fr f (no_no _) (no_no _) (fun _ _ => no_no _)).sub (fun k hk => List.mem_append.2 (Or.inr hk))
  have hkl : ∀ {K0 : List Nat}, (∀ k ∈ K0, k < w.heap.size) → ∀ k ∈ G ++ K0, k < w'.heap.size := fun hK k hk => by
    rcases List.mem_append.1 hk with hk | hk
    · exact (hG k hk).2
    · have := hK k hk; omega
  refine ⟨h.env.fr f (fun _ _ => no_no _), h.b13, Nat.le_trans h.bsz hsz, h.b0, h.b1, h.b2, hnew hdl h.n0, hnew h.tabs.lt h.n1, hnew h.tabs.ltm h.n2, hkl h.klt, h.lim, h.dlen, h.bg, h.tl, htabs h.tabs, fun hon => ?_, fun hon => ?_⟩
  · obtain ⟨room, hr, hb⟩ := h.off hon
    exact ⟨room, hr, hb.fr f (no_no _)⟩
  · obtain ⟨rb, s, mL, hb, hR, hat, hl, hps⟩ := h.on hon
    refine ⟨rb, s, mL, hb.fr f (no_no _), ?_, hat, hl, hps⟩
    have hR2 := hR.still f
    have hmem : ∀ {k : Nat}, k < w.heap.size → k ∉ dcb :: K → k ∉ dcb :: (G ++ K) := fun hk hn hm => by
      rcases List.mem_cons.1 hm with e | hm
      · exact hn (e ▸ List.mem_cons_self)
      · exact hnew hk (fun h2 => hn (List.mem_cons_of_mem _ h2)) hm
    have hsub : ∀ k ∈ dcb :: K, k ∈ dcb :: (G ++ K) := fun k hk => by
      rcases List.mem_cons.1 hk with e | hk
      · exact e ▸ List.mem_cons_self
      · exact List.mem_cons_of_mem _ (List.mem_append.2 (Or.inr hk))
    refine ⟨hR2.env, hR2.rd, hR2.drow, fun g hg => ⟨hmem ?_ (hR.dap g hg).1, (hR.dap g hg).2⟩, hR2.row, fun k hk => hmem ?_ (hR.oap k hk), hR2.b13, hR2.bsz, hR2.brb, hmem (lt_of hR.rd.1) hR.rbK, fun k hk => ?_, hR2.lim, hR2.len, hR2.tot, hR2.tabs.sub hsub, hR2.ts, hR2.b1, hR2.b2, hmem hR.tabs.lt hR.n1, hmem hR.tabs.ltm hR.n2, hR2.pos, hR2.pl, hR2.la, hR2.le, ?_, hR2.sound⟩
    · obtain ⟨_, cur, hh⟩ := row_block hR.drow hg; exact lt_of hh
    · obtain ⟨_, cur, hh⟩ := row_block hR.row hk; exact lt_of hh
    · rcases List.mem_cons.1 hk with e | hk
      · rw [e]; omega
      · exact hkl h.klt k hk
    · have ht := hR2.tab
      cases hm : mL.tab with
      | none => rw [hm] at ht; exact ht
      | some y =>
        rw [hm] at ht
        obtain ⟨tb, s1, s2, e, hT⟩ := ht
        exact ⟨tb, s1, s2, e, hT.sub hsub⟩
end Go.Proofs.YtjjjlilflbddoaaGreatDoor
namespace Go.Proofs.YtjjjlilflbddoaaGreatDoor
open Go.RowKit

theorem run_clear {w : World} {mb : Nat} {es : Array MapEntry} {clock : Nat} (h : w.heap[mb]? = some (.map es clock)) (ty : TypeId) :
    (Builtin.clear_ #[83] ty #[.map (some mb)]).run Tryz.prog w = .ok (.tuple #[]) (ChangeMaps.setBlock w mb (.map #[] clock)) := by
  unfold Builtin.clear_
  simp [go_sem, getObj, setObj, Sem.run, h, ChangeMaps.setBlock]

theorem fr_setBlock (w : World) (mb : Nat) (o : Obj) : Fr (One mb) w (ChangeMaps.setBlock w mb o) := by
  refine ⟨rfl, rfl, rfl, by simp [ChangeMaps.setBlock], fun k hk hs => ?_⟩
  have : mb ≠ k := fun e => hs e.symm
  simp [ChangeMaps.setBlock, this]

/-- Tables that are all given up. -/
theorem tabs_drop {w : World} {K : List Nat} {tsb mb clock : Nat} {c : Gz.Tc} {es : Array MapEntry} (h : TabsAt w K tsb mb c) (hb : w.heap[mb]? = some (.map es clock)) : TabsAt (ChangeMaps.setBlock w mb (.map #[] clock)) K tsb mb c.drop := by
  have hlt := lt_of hb
  refine ⟨h.blk.fr (fr_setBlock w mb _) (one_ne h.ne2.symm), ?_, .map [], ?_, holds_nil _⟩
  · exact h.ok.drop
  · refine ⟨#[], clock, by simp [ChangeMaps.setBlock, hlt], ?_, Nat.zero_le _, rfl⟩
    exact ⟨Nat.zero_le _, ⟨fun x hx => (by simp at hx), List.nodup_nil, List.nodup_nil⟩, fun x hx => (by simp at hx)⟩

set_option maxRecDepth 100000 in
theorem dropT_any (K : List Nat) (tsb mb : Nat) (c : Gz.Tc) (w : World) (h : TabsAt w K tsb mb c) :
    Calls Tryz.prog 45 #[.pointer (some ⟨tsb, 0, none⟩)] w fun e w' => e = .returned (.tuple #[]) ∧ TabsAt w' K tsb mb c.drop ∧ Fr (One mb) w w' := by
  obtain ⟨D, ⟨es, clock, hb, _⟩, _⟩ := h.map
  have c3 := h.blk.c3
  have hcl := run_clear hb
  have HT := hide (tabs_drop h hb)
  clear h hb
  go_enter Tryz.func45, Tryz.ntmps45
  go_wp2
  go_end0
  exact ⟨rfl, HT.out, fr_setBlock w mb _⟩
theorem Rst.clear {sp : Nat → Addr} {B rb tsb mb : Nat} {K1 : List Nat} {d : List UInt8} {m : Gz.M} {c c' : Gz.Tc} {w w' : World} {s : RS} (h : Rst sp B rb tsb mb K1 d m c w s) (f : Fr (One mb) w w') (hT : TabsAt w' K1 tsb mb c') : Rst sp B rb tsb mb K1 d m c' w' s := by
  have h13 := h.b13
  have hb2 := h.b2
  have hrow : ∀ {g : Nat}, (∃ cur, w.heap[g]? = some (.cells cur 5 (0, 0))) → ¬ One mb g := fun hg => one_ne (bytes_ne h.rd h.tabs hg).2.2
  refine ⟨h.env.fr f (fun k hk => one_ne (by omega)), h.rd.fr f (one_ne (h.tabs.nem h.rd).symm), ownsRow_fr h.drow f (fun g hg => hrow (row_block h.drow hg).2), h.dap, ownsRow_fr h.row f (fun g hg => hrow (row_block h.row hg).2), h.oap, h13, Nat.le_trans h.bsz f.size, h.brb, h.rbK, fun k hk => Nat.lt_of_lt_of_le (h.klt k hk) f.size, h.lim, h.len, h.tot, hT, h.ts, h.b1, h.b2, h.n1, h.n2, h.pos, h.pl, h.la, h.le, ?_, h.sound⟩
  have ht := h.tab
  cases hm : m.tab with
  | none => rw [hm] at ht; exact ht
  | some x =>
    rw [hm] at ht
    obtain ⟨tb, s1, s2, e, hT2⟩ := ht
    exact ⟨tb, s1, s2, e, hT2.frS f (fun k hk => one_ne (fun e => h.n2 (e ▸ hk)))⟩
theorem Db.ne {w : World} {K : List Nat} {dcb tsb mb room begun told : Nat} {rv : Value} {c : Gz.Tc} (h : Db w dcb tsb rv room begun told) (hT : TabsAt w K tsb mb c) : dcb ≠ mb := fun e => by
  obtain ⟨D, ⟨es, clock, hb, _⟩, _⟩ := hT.map
  unfold Db at h
  rw [e, hb] at h
  simp at h
/-- A decoder gives its tables up. -/
theorem drop_any (sp : Nat → Addr) (B dcb tsb mb : Nat) (K : List Nat) (x : Gz.Dec) (w : World) (hD : DecAt sp B dcb tsb mb K x w) :
    Calls Tryz.prog 29 #[.pointer (some ⟨dcb, 0, none⟩)] w fun e w' => e = .returned (.tuple #[]) ∧ DecAt sp B dcb tsb mb K { x with tc := x.tc.drop } w' ∧ Fr (One mb) w w' := by
  have hb : ∃ rv room, Db w dcb tsb rv room x.begun x.told := by
    cases hon : x.on with
    | false => obtain ⟨room, _, h⟩ := hD.off hon; exact ⟨_, room, h⟩
    | true => obtain ⟨rb, s, mL, h, _⟩ := hD.on hon; exact ⟨_, _, h⟩
  obtain ⟨rv, room, hb⟩ := hb
  have c0 := hb.c0
  have HC := hide (dropT_any K tsb mb x.tc w hD.tabs)
  have HD := hide hD
  clear hD hb
  go_enter Tryz.func29, Tryz.ntmps29
  go_wp2_with fail
  refine HC.out.mono ?_
  rintro e w' ⟨rfl, hT, f⟩
  have HT := hide hT
  have HF := hide f
  clear hT f
  go_wp2
  go_end0
  have hD := HD.out
  have f := HF.out
  have h13 := hD.b13
  have hb2 := hD.b2
  refine ⟨rfl, ⟨hD.env.fr f (fun k hk => one_ne (by omega)), h13, Nat.le_trans hD.bsz f.size, hD.b0, hD.b1, hD.b2, hD.n0, hD.n1, hD.n2, fun k hk => Nat.lt_of_lt_of_le (hD.klt k hk) f.size, hD.lim, hD.dlen, hD.bg, hD.tl, HT.out, fun hon => ?_, fun hon => ?_⟩, f⟩
  · obtain ⟨room, hr, hb⟩ := hD.off hon
    exact ⟨room, hr, hb.fr f (one_ne (hb.ne hD.tabs))⟩
  · obtain ⟨rb, s, mL, hb, hR, hat, hl, hps⟩ := hD.on hon
    exact ⟨rb, s, mL, hb.fr f (one_ne (hb.ne hD.tabs)), hR.clear f (HT.out.sub (fun k hk => List.mem_cons_of_mem _ hk)), hat, hl, hps⟩
end Go.Proofs.YtjjjlilflbddoaaGreatDoor
/-
  Two decoders beside one another: a call of one leaves the other as it is.
-/
namespace Go.Proofs.YtjjjlilflbddoaaGreatDoor
open Go.RowKit

/-- The blocks that a decoder may change: its own, its tables', its map, its reader's, and the two rows. -/
def Mu (w : World) (dcb tsb mb k : Nat) : Prop := k = dcb ∨ k = tsb ∨ k = mb ∨ ∃ rb, w.cell? ⟨dcb, 1, none⟩ = some (.pointer (some ⟨rb, 0, none⟩)) ∧
  (k = rb ∨ (∃ v, w.cell? ⟨rb, 0, none⟩ = some v ∧ v.ownBlock = some k) ∨ ∃ v, w.cell? ⟨rb, 5, none⟩ = some v ∧ v.ownBlock = some k)
/-- A block of a table. -/
def Tg (w : World) (k : Nat) : Prop := ∃ cc ty, w.heap[k]? = some (.cells cc ty (0, 0)) ∧ (ty = 207 ∨ ty = 3)
theorem Rd.at0 {w : World} {rb : Nat} {s : RS} (h : Rd w rb s) : w.cell? ⟨rb, 0, none⟩ = some s.dv := by rw [cell_of h.1]; rfl
theorem Rd.at5 {w : World} {rb : Nat} {s : RS} (h : Rd w rb s) : w.cell? ⟨rb, 5, none⟩ = some s.ov := by rw [cell_of h.1]; rfl
section
variable {w w' : World} {dcb tsb mb rb room begun told k : Nat} {s : RS}
theorem mu_on (hb : Db w dcb tsb (.pointer (some ⟨rb, 0, none⟩)) room begun told) (hr : Rd w rb s) : Mu w dcb tsb mb k ↔ (k = dcb ∨ k = tsb ∨ k = mb ∨ k = rb ∨ s.dv.ownBlock = some k ∨ s.ov.ownBlock = some k) := by
  unfold Mu
  rw [hb.c1]
  constructor
  · rintro (h | h | h | ⟨rb', e, h⟩)
    · exact .inl h
    · exact .inr (.inl h)
    · exact .inr (.inr (.inl h))
    · have e' : rb = rb' := by simpa using e
      subst e'
      rw [hr.at0, hr.at5] at h
      rcases h with h | ⟨v, e1, h⟩ | ⟨v, e1, h⟩
      · exact .inr (.inr (.inr (.inl h)))
      · rw [← Option.some.inj e1] at h; exact .inr (.inr (.inr (.inr (.inl h))))
      · rw [← Option.some.inj e1] at h; exact .inr (.inr (.inr (.inr (.inr h))))
  · rintro (h | h | h | h | h | h)
    · exact .inl h
    · exact .inr (.inl h)
    · exact .inr (.inr (.inl h))
    · exact .inr (.inr (.inr ⟨rb, rfl, .inl h⟩))
    · exact .inr (.inr (.inr ⟨rb, rfl, .inr (.inl ⟨_, hr.at0, h⟩)⟩))
    · exact .inr (.inr (.inr ⟨rb, rfl, .inr (.inr ⟨_, hr.at5, h⟩)⟩))
theorem mu_off (hb : Db w dcb tsb (.pointer none) room begun told) : Mu w dcb tsb mb k ↔ (k = dcb ∨ k = tsb ∨ k = mb) := by
  unfold Mu
  rw [hb.c1]
  constructor
  · rintro (h | h | h | ⟨rb', e, h⟩)
    · exact .inl h
    · exact .inr (.inl h)
    · exact .inr (.inr h)
    · simp at e
  · rintro (h | h | h)
    · exact .inl h
    · exact .inr (.inl h)
    · exact .inr (.inr (.inl h))
end
section
variable {sp : Nat → Addr} {B dcb tsb mb k : Nat} {K K' : List Nat} {x : Gz.Dec} {w w' : World}
/-- What it may change is none of what stays, lies there, and is no table's. -/
theorem DecAt.mu (h : DecAt sp B dcb tsb mb K x w) (hk : Mu w dcb tsb mb k) : k ∉ K ∧ B ≤ k ∧ k < w.heap.size ∧ ¬ Tg w k := by
  have htag : ∀ {cc : Array Value} {ty : TypeId} {j : Nat}, w.heap[j]? = some (.cells cc ty (0, 0)) → ty ≠ 207 → ty ≠ 3 → ¬ Tg w j := fun hj h1 h2 ⟨cc', ty', e, h3⟩ => by
    rw [hj] at e
    injection e with e
    injection e with _ e
    rcases h3 with h3 | h3
    · exact h1 (e.trans h3)
    · exact h2 (e.trans h3)
  have hts : tsb ∉ K ∧ B ≤ tsb ∧ tsb < w.heap.size ∧ ¬ Tg w tsb := ⟨h.n1, h.b1, h.tabs.lt, htag h.tabs.blk (by decide) (by decide)⟩
  have hmb : mb ∉ K ∧ B ≤ mb ∧ mb < w.heap.size ∧ ¬ Tg w mb := ⟨h.n2, h.b2, h.tabs.ltm, by
    obtain ⟨D, ⟨es, clock, hb, _⟩, _⟩ := h.tabs.map
    rintro ⟨cc', ty', e, _⟩
    rw [hb] at e
    simp at e⟩
  cases hon : x.on with
  | false =>
    obtain ⟨room, _, hb⟩ := h.off hon
    rcases (mu_off hb).1 hk with rfl | rfl | rfl
    · exact ⟨h.n0, h.b0, lt_of hb, htag hb (by decide) (by decide)⟩
    · exact hts
    · exact hmb
  | true =>
    obtain ⟨rb, s, mL, hb, hR, _⟩ := h.on hon
    rcases (mu_on hb hR.rd).1 hk with rfl | rfl | rfl | rfl | hd | ho
    · exact ⟨h.n0, h.b0, lt_of hb, htag hb (by decide) (by decide)⟩
    · exact hts
    · exact hmb
    · exact ⟨fun hm => hR.rbK (List.mem_cons_of_mem _ hm), hR.brb, lt_of hR.rd.1, htag hR.rd.1 (by decide) (by decide)⟩
    · obtain ⟨h1, cur, h2⟩ := row_block hR.drow hd
      exact ⟨fun hm => (hR.dap _ hd).1 (List.mem_cons_of_mem _ hm), h1, lt_of h2, htag h2 (by decide) (by decide)⟩
    · obtain ⟨h1, cur, h2⟩ := row_block hR.row ho
      exact ⟨fun hm => hR.oap _ ho (List.mem_cons_of_mem _ hm), h1, lt_of h2, htag h2 (by decide) (by decide)⟩
theorem TabsAt.recut {K0 K1 : List Nat} {c : Gz.Tc} (h : TabsAt w K0 tsb mb c) (hK : ∀ k ∈ K0, Tg w k → k ∈ K1) : TabsAt w K1 tsb mb c := by
  obtain ⟨D, hD, hH⟩ := h.map
  exact ⟨h.blk, h.ok, D, hD, hH.mono (fun tb l ⟨s1, s2, hT⟩ => ⟨s1, s2, hT.cut (fun k hk ht => hK k hk ht)⟩)⟩
/-- Other blocks may be named as those that stay. -/
theorem DecAt.reK (h : DecAt sp B dcb tsb mb K x w) (h1 : ∀ k ∈ K', k < w.heap.size) (h2 : ∀ k ∈ K, Tg w k → k ∈ K') (h3 : ∀ k ∈ K', ¬ Mu w dcb tsb mb k) : DecAt sp B dcb tsb mb K' x w := by
  refine ⟨h.env, h.b13, h.bsz, h.b0, h.b1, h.b2, fun hm => h3 _ hm (.inl rfl), fun hm => h3 _ hm (.inr (.inl rfl)), fun hm => h3 _ hm (.inr (.inr (.inl rfl))), h1, h.lim, h.dlen, h.bg, h.tl, h.tabs.recut h2, h.off, fun hon => ?_⟩
  obtain ⟨rb, s, mL, hb, hR, hat, hl, hps⟩ := h.on hon
  refine ⟨rb, s, mL, hb, ?_, hat, hl, hps⟩
  have hmu := fun k => (mu_on (mb := mb) (k := k) hb hR.rd).2
  have hnd : ∀ {j : Nat}, j ∉ dcb :: K → ¬ (j ∈ K') → j ∉ dcb :: K' := fun a b hm => by
    rcases List.mem_cons.1 hm with e | hm
    · exact a (e ▸ List.mem_cons_self)
    · exact b hm
  have hsub : ∀ j ∈ dcb :: K, Tg w j → j ∈ dcb :: K' := fun j hj ht => by
    rcases List.mem_cons.1 hj with e | hj
    · exact e ▸ List.mem_cons_self
    · exact List.mem_cons_of_mem _ (h2 j hj ht)
  refine ⟨hR.env, hR.rd, hR.drow, fun g hg => ⟨hnd (hR.dap g hg).1 (fun hm => h3 _ hm (hmu g (.inr (.inr (.inr (.inr (.inl hg))))))), (hR.dap g hg).2⟩, hR.row, fun g hg => hnd (hR.oap g hg) (fun hm => h3 _ hm (hmu g (.inr (.inr (.inr (.inr (.inr hg))))))), hR.b13, hR.bsz, hR.brb, hnd hR.rbK (fun hm => h3 _ hm (hmu rb (.inr (.inr (.inr (.inl rfl)))))), fun j hj => ?_, hR.lim, hR.len, hR.tot, hR.tabs.recut hsub, hR.ts, hR.b1, hR.b2, hnd hR.n1 (fun hm => h3 _ hm (.inr (.inl rfl))), hnd hR.n2 (fun hm => h3 _ hm (.inr (.inr (.inl rfl)))), hR.pos, hR.pl, hR.la, hR.le, ?_, hR.sound⟩
  · rcases List.mem_cons.1 hj with e | hj
    · rw [e]; exact lt_of hb
    · exact h1 j hj
  · have ht := hR.tab
    cases hm : mL.tab with
    | none => rw [hm] at ht; exact ht
    | some y =>
      rw [hm] at ht
      obtain ⟨tb, s1, s2, e, hT⟩ := ht
      exact ⟨tb, s1, s2, e, hT.cut hsub⟩
end
end Go.Proofs.YtjjjlilflbddoaaGreatDoor
namespace Go.Proofs.YtjjjlilflbddoaaGreatDoor
open Go.RowKit

theorem compl (P : Nat → Prop) : ∀ n : Nat, ∃ K : List Nat, ∀ k, k ∈ K ↔ k < n ∧ ¬ P k
  | 0 => ⟨[], fun k => ⟨fun h => by simp at h, fun h => by omega⟩⟩
  | n + 1 => by
    obtain ⟨K, hK⟩ := compl P n
    by_cases hp : P n
    · refine ⟨K, fun k => ⟨fun h => ⟨Nat.lt_succ_of_lt ((hK k).1 h).1, ((hK k).1 h).2⟩, fun h => (hK k).2 ⟨?_, h.2⟩⟩⟩
      rcases Nat.lt_succ_iff_lt_or_eq.1 h.1 with h1 | h1
      · exact h1
      · subst h1; exact absurd hp h.2
    · refine ⟨n :: K, fun k => ⟨fun h => ?_, fun h => ?_⟩⟩
      · rcases List.mem_cons.1 h with rfl | h
        · exact ⟨Nat.lt_succ_self _, hp⟩
        · exact ⟨Nat.lt_succ_of_lt ((hK k).1 h).1, ((hK k).1 h).2⟩
      · rcases Nat.lt_succ_iff_lt_or_eq.1 h.1 with h1 | h1
        · exact List.mem_cons_of_mem _ ((hK k).2 ⟨h1, h.2⟩)
        · exact h1 ▸ List.mem_cons_self

section
variable {sp : Nat → Addr} {B dcb tsb mb : Nat} {K : List Nat} {x : Gz.Dec} {w w' : World} {S : Nat → Prop}
theorem TableAt.beside {tb s1 s2 : Nat} {t : Gz.Table} (hT : TableAt w K tb s1 s2 t) (f : Fr S w w') (hs : ∀ k, Tg w k → ¬ S k) : TableAt w' K tb s1 s2 t := by
  obtain ⟨⟨a, ha⟩, ⟨b, hb⟩, c, hc⟩ := hT.tg
  have h0 := hs _ ⟨_, _, ha, .inl rfl⟩
  have h1 := hs _ ⟨_, _, hb, .inr rfl⟩
  have h2 := hs _ ⟨_, _, hc, .inr rfl⟩
  exact ⟨hT.syms.fr f h0 h1, hT.dists.fr f h0 h2, hT.g1, hT.g2, hT.k0, hT.k1, hT.k2, hT.tg.fr f h0 h1 h2⟩
theorem TabsAt.beside {c : Gz.Tc} (h : TabsAt w K tsb mb c) (f : Fr S w w') (h1 : ¬ S tsb) (h2 : ¬ S mb) (hs : ∀ k, Tg w k → ¬ S k) : TabsAt w' K tsb mb c := by
  obtain ⟨D, hD, hH⟩ := h.map
  exact ⟨h.blk.fr f h1, h.ok, D, ownsMap_fr hD f h2, hH.mono (fun tb l ⟨s1, s2, hT⟩ => ⟨s1, s2, hT.beside f hs⟩)⟩
/-- What is done beside a decoder leaves it as it is. -/
theorem DecAt.beside (h : DecAt sp B dcb tsb mb K x w) (f : Fr S w w') (hM : ∀ k, Mu w dcb tsb mb k → ¬ S k) (hT : ∀ k, Tg w k → ¬ S k) (hG : ∀ k, k < 16 → ¬ S k) : DecAt sp B dcb tsb mb K x w' ∧ ∀ k, Mu w' dcb tsb mb k ↔ Mu w dcb tsb mb k := by
  have m0 := hM _ (.inl rfl)
  have m1 := hM _ (.inr (.inl rfl))
  have m2 := hM _ (.inr (.inr (.inl rfl)))
  have htabs : ∀ {K0 : List Nat} {c : Gz.Tc}, TabsAt w K0 tsb mb c → TabsAt w' K0 tsb mb c := fun hh => hh.beside f m1 m2 hT
  have hmk : ∀ {K0 : List Nat}, (∀ k ∈ K0, k < w.heap.size) → ∀ k ∈ K0, k < w'.heap.size := fun hh k hk => Nat.lt_of_lt_of_le (hh k hk) f.size
  cases hon : x.on with
  | false =>
    obtain ⟨room, hr, hb⟩ := h.off hon
    have hb' := hb.fr f m0
    refine ⟨⟨h.env.fr f hG, h.b13, Nat.le_trans h.bsz f.size, h.b0, h.b1, h.b2, h.n0, h.n1, h.n2, hmk h.klt, h.lim, h.dlen, h.bg, h.tl, htabs h.tabs, fun _ => ⟨room, hr, hb'⟩, fun e => (by rw [hon] at e; cases e)⟩, fun k => ?_⟩
    rw [mu_off hb, mu_off hb']
  | true =>
    obtain ⟨rb, s, mL, hb, hR, hat, hl, hps⟩ := h.on hon
    have hmu := fun k => (mu_on (mb := mb) (k := k) hb hR.rd).2
    have mr := hM _ (hmu rb (.inr (.inr (.inr (.inl rfl)))))
    have hb' := hb.fr f m0
    have hrd' := hR.rd.fr f mr
    refine ⟨⟨h.env.fr f hG, h.b13, Nat.le_trans h.bsz f.size, h.b0, h.b1, h.b2, h.n0, h.n1, h.n2, hmk h.klt, h.lim, h.dlen, h.bg, h.tl, htabs h.tabs, fun e => (by rw [hon] at e; cases e), fun _ => ⟨rb, s, mL, hb', ?_, hat, hl, hps⟩⟩, fun k => ?_⟩
    · refine ⟨hR.env.fr f hG, hrd', ownsRow_fr hR.drow f (fun g hg => hM _ (hmu g (.inr (.inr (.inr (.inr (.inl hg))))))), hR.dap, ownsRow_fr hR.row f (fun g hg => hM _ (hmu g (.inr (.inr (.inr (.inr (.inr hg))))))), hR.oap, hR.b13, Nat.le_trans hR.bsz f.size, hR.brb, hR.rbK, hmk hR.klt, hR.lim, hR.len, hR.tot, htabs hR.tabs, hR.ts, hR.b1, hR.b2, hR.n1, hR.n2, hR.pos, hR.pl, hR.la, hR.le, ?_, hR.sound⟩
      have ht := hR.tab
      cases hm : mL.tab with
      | none => rw [hm] at ht; exact ht
      | some y =>
        rw [hm] at ht
        obtain ⟨tb, s1, s2, e, hTT⟩ := ht
        exact ⟨tb, s1, s2, e, hTT.beside f hT⟩
    · rw [mu_on hb hR.rd, mu_on hb' hrd']
/-- All but its own blocks may be named as those that stay. -/
theorem DecAt.full (h : DecAt sp B dcb tsb mb K x w) : ∃ K', DecAt sp B dcb tsb mb K' x w ∧ ∀ k, k < w.heap.size → k ∉ K' → Mu w dcb tsb mb k := by
  obtain ⟨K', hK⟩ := compl (Mu w dcb tsb mb) w.heap.size
  refine ⟨K', h.reK (fun k hk => ((hK k).1 hk).1) (fun k hk ht => (hK k).2 ⟨h.klt k hk, fun hm => (h.mu hm).1 hk⟩) (fun k hk => ((hK k).1 hk).2), fun k hk hn => ?_⟩
  by_cases hm : Mu w dcb tsb mb k
  · exact hm
  · exact absurd ((hK k).2 ⟨hk, hm⟩) hn
end

/-- Two decoders that share nothing that changes; the blocks Z are neither's. -/
structure Both (sp : Nat → Addr) (B1 d1 t1 m1 B2 d2 t2 m2 : Nat) (Z : List Nat) (x y : Gz.Dec) (w : World) : Prop where
  one : ∃ K, DecAt sp B1 d1 t1 m1 K x w
  two : ∃ K, DecAt sp B2 d2 t2 m2 K y w
  apart : ∀ k, Mu w d1 t1 m1 k → ¬ Mu w d2 t2 m2 k
  off : ∀ k ∈ Z, k < w.heap.size ∧ ¬ Mu w d1 t1 m1 k ∧ ¬ Mu w d2 t2 m2 k
def SameAt (Z : List Nat) (w w' : World) : Prop := ∀ k ∈ Z, w'.heap[k]? = w.heap[k]?
/-- What a call of one of the two leaves. -/
structure Left (sp : Nat → Addr) (B1 d1 t1 m1 B2 d2 t2 m2 : Nat) (Z : List Nat) (x y : Gz.Dec) (w w' : World) : Prop where
  both : Both sp B1 d1 t1 m1 B2 d2 t2 m2 Z x y w'
  same : SameAt Z w w'
  fr : Fr (fun k => B1 ≤ k) w w'
section
variable {sp : Nat → Addr} {B1 d1 t1 m1 B2 d2 t2 m2 : Nat} {Z : List Nat} {x x' y : Gz.Dec} {w w' : World}
theorem Both.swap (h : Both sp B1 d1 t1 m1 B2 d2 t2 m2 Z x y w) : Both sp B2 d2 t2 m2 B1 d1 t1 m1 Z y x w := ⟨h.two, h.one, fun k h1 h2 => h.apart k h2 h1, fun k hk => ⟨(h.off k hk).1, (h.off k hk).2.2, (h.off k hk).2.1⟩⟩
/-- New blocks may be named as neither's. -/
theorem Both.still {G : List Nat} (h : Both sp B1 d1 t1 m1 B2 d2 t2 m2 Z x y w) (f : Fr No w w') (hG : ∀ g ∈ G, w.heap.size ≤ g ∧ g < w'.heap.size) : Both sp B1 d1 t1 m1 B2 d2 t2 m2 (G ++ Z) x y w' := by
  obtain ⟨K1, h1⟩ := h.one
  obtain ⟨K2, h2⟩ := h.two
  obtain ⟨h1', e1⟩ := h1.beside f (fun _ _ => no_no _) (fun _ _ => no_no _) (fun _ _ => no_no _)
  obtain ⟨h2', e2⟩ := h2.beside f (fun _ _ => no_no _) (fun _ _ => no_no _) (fun _ _ => no_no _)
  refine ⟨⟨K1, h1'⟩, ⟨K2, h2'⟩, fun k a b => h.apart k ((e1 k).1 a) ((e2 k).1 b), fun k hk => ?_⟩
  rcases List.mem_append.1 hk with hk | hk
  · refine ⟨(hG k hk).2, fun a => ?_, fun a => ?_⟩
    · have := (h1.mu ((e1 k).1 a)).2.2.1; have := (hG k hk).1; omega
    · have := (h2.mu ((e2 k).1 a)).2.2.1; have := (hG k hk).1; omega
  · exact ⟨Nat.lt_of_lt_of_le (h.off k hk).1 f.size, fun a => (h.off k hk).2.1 ((e1 k).1 a), fun a => (h.off k hk).2.2 ((e2 k).1 a)⟩
/-- A call of the first. -/
theorem Both.call {K' K'' : List Nat} (h : Both sp B1 d1 t1 m1 B2 d2 t2 m2 Z x y w) (hD : DecAt sp B1 d1 t1 m1 K' x w) (hK : ∀ k, k < w.heap.size → k ∉ K' → Mu w d1 t1 m1 k) (f : Fr (Own B1 K') w w') (hD' : DecAt sp B1 d1 t1 m1 K'' x' w') (hsub : ∀ k ∈ K', k ∈ K'') :
    Left sp B1 d1 t1 m1 B2 d2 t2 m2 Z x' y w w' := by
  obtain ⟨K2, hy⟩ := h.two
  have f2 : Fr (Mu w d1 t1 m1) w w' := f.mono (fun k hk e => hK k hk e.2)
  obtain ⟨hy', hmu⟩ := hy.beside f2 (fun k hk hs => h.apart k hs hk) (fun k ht hs => (hD.mu hs).2.2.2 ht) (fun k hk hs => by have := (hD.mu hs).2.1; have := hD.b13; omega)
  refine ⟨⟨⟨K'', hD'⟩, ⟨K2, hy'⟩, fun k h1 h2 => ?_, fun k hk => ?_⟩, fun k hk => f2.block k (h.off k hk).1 (h.off k hk).2.1, f.mono (fun k _ e => e.1)⟩
  · have h3 := (hmu k).1 h2
    have h4 := (hy.mu h3).2.2.1
    exact h.apart k (hK k h4 (fun hm => (hD'.mu h1).1 (hsub k hm))) h3
  · obtain ⟨a, b, c⟩ := h.off k hk
    refine ⟨Nat.lt_of_lt_of_le a f.size, fun h1 => b (hK k a (fun hm => (hD'.mu h1).1 (hsub k hm))), fun h2 => c ((hmu k).1 h2)⟩
theorem Both.feed (h : Both sp B1 d1 t1 m1 B2 d2 t2 m2 Z x y w) (t : ByteArray) (hBl : Blk sp w) (hsp : ∀ k, 3 ≤ k → k ≤ 10 → (sp k).block < B1) (hP : Pow w) (hask : x.tc.asked + 32000 < 2 ^ 62) :
    Calls Tryz.prog 25 #[.pointer (some ⟨d1, 0, none⟩), .string t] w fun e w' =>
      e = .returned (.tuple #[.string ⟨(x.feed t.data.toList).2.1.toArray⟩, .int .i64 ((x.feed t.data.toList).2.2 : Nat)]) ∧ Left sp B1 d1 t1 m1 B2 d2 t2 m2 Z (x.feed t.data.toList).1 y w w' ∧ (x.feed t.data.toList).1.tc.asked ≤ x.tc.asked + 32000 := by
  obtain ⟨K, hx⟩ := h.one
  obtain ⟨K', hD, hK⟩ := hx.full
  refine (feed_any sp B1 d1 t1 m1 K' x w t _ rfl hD hBl hsp hP hask).mono ?_
  rintro e w' ⟨rfl, f, K'', hD', hG, ha⟩
  exact ⟨rfl, h.call hD hK f hD' hG.1, ha⟩
theorem Both.begin (h : Both sp B1 d1 t1 m1 B2 d2 t2 m2 Z x y w) (l : Nat) (hl : l ≤ 6000) :
    Calls Tryz.prog 23 #[.pointer (some ⟨d1, 0, none⟩), .int .i64 l] w fun e w' => e = .returned (.int .i64 0) ∧ Left sp B1 d1 t1 m1 B2 d2 t2 m2 Z (x.begin l) y w w' := by
  obtain ⟨K, hx⟩ := h.one
  obtain ⟨K', hD, hK⟩ := hx.full
  refine (begin_yes sp B1 d1 t1 m1 K' x l w hl hD).mono ?_
  rintro e w' ⟨rfl, hD', f⟩
  exact ⟨rfl, h.call hD hK (f.mono (fun k _ e => by have e' : k = d1 := e; rw [e']; exact ⟨hD.b0, hD.n0⟩)) hD' (fun _ hk => hk)⟩
theorem Both.drop (h : Both sp B1 d1 t1 m1 B2 d2 t2 m2 Z x y w) :
    Calls Tryz.prog 29 #[.pointer (some ⟨d1, 0, none⟩)] w fun e w' => e = .returned (.tuple #[]) ∧ Left sp B1 d1 t1 m1 B2 d2 t2 m2 Z { x with tc := x.tc.drop } y w w' := by
  obtain ⟨K, hx⟩ := h.one
  obtain ⟨K', hD, hK⟩ := hx.full
  refine (drop_any sp B1 d1 t1 m1 K' x w hD).mono ?_
  rintro e w' ⟨rfl, hD', f⟩
  exact ⟨rfl, h.call hD hK (f.mono (fun k _ e => by have e' : k = m1 := e; rw [e']; exact ⟨hD.b2, hD.n2⟩)) hD' (fun _ hk => hk)⟩
end

namespace Gz
/-- Two decoders that tell alike. -/
structure Alike (x y : Dec) : Prop where
  on : x.on = y.on
  lim : x.lim = y.lim
  data : x.data = y.data
  begun : x.begun = y.begun
  told : x.told = y.told
theorem Alike.feed {x y : Dec} (h : Alike x y) (p : List UInt8) : Alike (x.feed p).1 (y.feed p).1 ∧ (x.feed p).2 = (y.feed p).2 := by
  refine ⟨?_, feed_alike x y p h.on h.lim h.data⟩
  have hn : x.next p = y.next p := by unfold Dec.next; rw [h.data, h.lim]
  unfold Dec.feed
  rw [h.on, h.lim, h.data, hn]
  split
  · exact h
  split
  · exact ⟨rfl, h.lim, h.data, h.begun, rfl⟩
  split
  · exact ⟨h.on, h.lim, by show x.data ++ p = y.data ++ p; rw [h.data], h.begun, h.told⟩
  split
  · exact ⟨rfl, h.lim, by show x.data ++ p = y.data ++ p; rw [h.data], rfl, rfl⟩
  · exact ⟨rfl, h.lim, by show x.data ++ p = y.data ++ p; rw [h.data], h.begun, rfl⟩
theorem Alike.begin (x y : Dec) (l : Nat) : Alike (x.begin l) (y.begin l) := ⟨rfl, rfl, rfl, rfl, rfl⟩
theorem Alike.drop {x y : Dec} (h : Alike x y) : Alike x { y with tc := y.tc.drop } := ⟨h.on, h.lim, h.data, h.begun, h.told⟩
theorem Alike.new (a b : Nat) : Alike (Dec.new a) (Dec.new b) := ⟨rfl, rfl, rfl, rfl, rfl⟩
end Gz
end Go.Proofs.YtjjjlilflbddoaaGreatDoor
