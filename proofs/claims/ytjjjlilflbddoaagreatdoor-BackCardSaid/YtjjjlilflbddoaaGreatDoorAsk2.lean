import Derived.Test.YtjjjlilflbddoaaGreatDoorAsk
namespace Go.Proofs.YtjjjlilflbddoaaGreatDoor
open Go.RowKit Go.Maps Go.WideMaps

theorem Fr.toDuo {a b : Nat} {w w' : World} (f : Fr (One a) w w') : Fr (Duo a b) w w' := f.mono (fun _ _ e => Or.inl e)
theorem Fr.toDuo2 {a b : Nat} {w w' : World} (f : Fr (One b) w w') : Fr (Duo a b) w w' := f.mono (fun _ _ e => Or.inr e)

/-- Ahead of the store into the map: the table lies in tb; one lies in block ob. -/
structure Mid (w0 w : World) (K0 K' : List Nat) (tsb mb lb ob tb : Nat) (c : Gz.Tc) (l : List Nat) (D : Dx) : Prop where
  blk : Tb w tsb c.most (if c.hit l then c.made else c.made + 1) (c.asked + 1) mb
  own : OwnsK w mb D
  holds : Holds (TabIn w K') D c.kept
  tab : TabIn w K' tb l
  len : w.heap[lb]? = some (.cells (uvs l) 105 (0, 0))
  one : w.heap[ob]? = some (.cells #[.pointer (some ⟨tb, 0, none⟩), .int .i64 ((c.asked + 1 : Nat) : Int)] 232 (0, 0))
  grow : Grow K0 K' w0 w
  fr : Fr (Duo tsb mb) w0 w
theorem yields_len {P : Program} {ops : Array Oper} {S : World → Prop} {op : Oper} {a : Act} (hw : Region.wanted op (yielded ops a.tmps) = true) (m : Operand) (t : TypeId) (hop : op.op = Op.call { callee := Callee.builtin Builtin.len, args := #[m], argTypes := #[t] })
    (k e : TypeId) (ht : P.underlying t = some (.map k e)) (b : Nat) (D : Dx) (hm : a.eval m = .map (some b)) (hS : ∀ w, S w → w.ownsMap P k RE b (Maps.size D) D) : YieldsIf P ops S op (.int .i64 (Maps.size D)) a :=
  .inl ⟨hw, fun w h => by
    have hrun := (hS w h).len ht op.type
    unfold execOp
    simp [hop, resolve, invoke, builtin, hm, hrun, Result.andThen]⟩

/-- How an asking comes to its end. -/
def AskPost (K0 : List Nat) (tsb mb : Nat) (c : Gz.Tc) (l : List Nat) (w : World) (e : Ending) (w' : World) : Prop :=
  ∃ tb s1 s2 K', e = .returned (.pointer (some ⟨tb, 0, none⟩)) ∧ TableAt w' K' tb s1 s2 (Gz.makeTable l) ∧ TabsAt w' K' tsb mb (c.ask l) ∧ Grow K0 K' w w' ∧ Fr (Duo tsb mb) w w'

set_option maxRecDepth 100000 in
set_option maxHeartbeats 3200000 in
theorem ask_any (K0 : List Nat) (tsb mb : Nat) (c : Gz.Tc) (l : List Nat) (w : World) (hT : TabsAt w K0 tsb mb c) (hl : KeyOk l) (ha : c.asked < 2 ^ 62) (hK : ∀ k ∈ K0, k < w.heap.size) (h1 : tsb ∉ K0) (h2 : mb ∉ K0) :
    Calls Tryz.prog 117 #[.pointer (some ⟨tsb, 0, none⟩), .agg (uvs l)] w (AskPost K0 tsb mb c l w) := by
  obtain ⟨D, hD, hH⟩ := hT.map
  have hok := hT.ok
  have hb := hT.blk
  have hne := hT.ne2
  have htl := hT.lt
  have hml := hT.ltm
  have hkey := keyOk_of hl
  have hmade := hok.made
  have hls : (uvs l).size = 320 := by rw [uvs_size]; exact hl.1
  obtain ⟨lb, hlb⟩ : ∃ lb, lb = w.heap.size := ⟨_, rfl⟩
  obtain ⟨w1, hw1⟩ : ∃ w1, w1 = w.alloc (.cells (uvs l) 105) := ⟨_, rfl⟩
  have hf1 : Fr No w w1 := by rw [hw1]; exact (Fr.refl _ _).alloc _
  have hz1 : w1.heap[lb]? = some (.cells (uvs l) 105 (0, 0)) := by rw [hw1, hlb]; exact alloc_at w _
  have hs1 : w1.heap.size = lb + 1 := by rw [hw1, hlb]; simp
  have hb1 := hb.fr hf1 (no_no _)
  have k12 := hb1.c2
  have f12 := hb1.fz 2
  obtain ⟨w2, hw2⟩ : ∃ w2, w2 = w1.setCell ⟨tsb, 2, none⟩ (.int .i64 ((c.asked : Int) + 1)) := ⟨_, rfl⟩
  have hb2 : Tb w2 tsb c.most c.made (c.asked + 1) mb := by rw [hw2]; exact hb1.s2 _ (c.asked + 1) (by omega)
  have hf12 : Fr (One tsb) w1 w2 := by rw [hw2]; exact (Fr.refl _ _).setCell (fun _ => one_self tsb) _
  have hf2 : Fr (Duo tsb mb) w w2 := (hf1.of_no (T := Duo tsb mb)).trans hf12.toDuo
  have hz2 : w2.heap[lb]? = some (.cells (uvs l) 105 (0, 0)) := hf12.at hz1 (one_ne (by omega))
  have hD2 : OwnsK w2 mb D := ownsMap_fr (ownsMap_fr hD hf1 (no_no _)) hf12 (one_ne hne)
  have hs2 : w2.heap.size = lb + 1 := by rw [hw2]; simp [World.setCell]; exact hs1
  have hKS : ∀ k ∈ K0, ¬ Duo tsb mb k := fun k hk e => e.elim (fun e => h1 (e ▸ hk)) (fun e => h2 (e ▸ hk))
  have hH2 : Holds (TabIn w2 K0) D c.kept := hH.mono (fun tb x ⟨s1, s2, ht⟩ => ⟨s1, s2, ht.frS hf2 hKS⟩)
  have k23 := hb2.c3
  obtain ⟨y, hy⟩ : ∃ y, D.atKey (keyLit l) (.held (none, 0)) = .held y := by
    cases hh : Maps.has D (keyLit l) with
    | false => exact ⟨(none, 0), atKey_of_not_has hh _⟩
    | true =>
      obtain ⟨x, hx, e⟩ := hH.only _ hh
      obtain ⟨tb, h3, _⟩ := hH.held x hx
      exact ⟨_, by rw [e]; exact h3 _⟩
  have hhit : Maps.has D (keyLit l) = c.hit l := hH.hit keyOk_inj (fun x hx => hok.keys x hx) hl
  obtain ⟨ob, hob⟩ : ∃ ob, ob = lb + 1 := ⟨_, rfl⟩
  have hms : Maps.size D ≤ 16 := by rw [hH.size]; exact Nat.le_trans hok.len hok.most
  have HK := hide hK
  have HW1 := hide hw1
  have HW2 := hide hw2
  have HB2 := hide hb2
  have HH2 := hide hH2
  have HF2 := hide hf2
  have HZ2 := hide hz2
  have HLB := hide hlb
  have HOB := hide hob
  have HS2 := hide hs2
  have HH := hide hH
  have HHIT := hide hhit
  have HD2 := hide hD2
  have HKS := hide hKS
  clear hK hw1 hw2 hb2 hH2 hf2 hz2 hlb hob hs2 hH hhit hD2 hKS hz1 hs1 hb1 hf12 hf1 hb hD hT
  go_enter Tryz.func117, Tryz.ntmps117
  go_upto_region 1 with fail
  change Code.wp _ _ _ _ (w.alloc (.cells (uvs l) 105))
  rw [← HLB.out, ← HW1.out]
  go_upto_region 2 with fail
  rw [← HW2.out]
  refine wp_region_held (S := fun W => W.heap[lb]? = some (.cells (uvs l) 105 (0, 0)) ∧ W.cell? ⟨tsb, 3, none⟩ = some (.map (some mb)) ∧ OwnsK W mb D) (by kernel_rfl) ?_
  change wpAnyH _ _ _ _ _ _ _ _ (World.drew _)
  have hS0 : (World.drew w2).heap[lb]? = some (.cells (uvs l) 105 (0, 0)) ∧ (World.drew w2).cell? ⟨tsb, 3, none⟩ = some (.map (some mb)) ∧ OwnsK (World.drew w2) mb D := ⟨HZ2.out, k23, HD2.out⟩
  refine wpAnyH_take (i := 0) (v := ?_) rfl (by kernel_rfl) (by kernel_rfl) (by kernel_rfl) (fun _ _ _ h => h) (Or.inl ⟨by rfl, by intro w _; go_simp; with_reducible rfl⟩) hS0 ?_
  refine wpAnyH_take (i := 1) (v := ?_) rfl (by kernel_rfl) (by kernel_rfl) (by kernel_rfl) (fun _ _ _ h => h) (Or.inl ⟨by rfl, by intro w _; go_simp; with_reducible rfl⟩) hS0 ?_
  refine wpAnyH_take (i := 2) (v := ?_) rfl (by kernel_rfl) (by kernel_rfl) (by kernel_rfl) (fun _ _ _ h => h) (Or.inl ⟨by rfl, by intro w _; go_simp; with_reducible rfl⟩) hS0 ?_
  refine wpAnyH_take (i := 3) (v := .map (some mb)) rfl (by kernel_rfl) (by kernel_rfl) (by kernel_rfl) (fun _ _ _ h => h) (Or.inl ⟨by rfl, by intro w h; have h := h.2.1; go_simp⟩) hS0 ?_
  refine wpAnyH_take (i := 4) (v := .agg (uvs l)) rfl (by kernel_rfl) (by kernel_rfl) (by kernel_rfl) (fun _ _ _ h => h) (yields_row rfl 105 (.tmp 3) rfl lb rfl 105 (uvs l) (0, 0) _ (fun _ h => h.1) Tryz.underlying105 rfl (by rw [hls]; kernel_rfl)) hS0 ?_
  refine wpAnyH_take (i := 5) (v := .tuple #[mkE y, .bool (Maps.has D (keyLit l))]) rfl (by kernel_rfl) (by kernel_rfl) (by kernel_rfl) (fun _ _ _ h => h) (yields_look rfl 83 (.tmp 18) (.tmp 19) rfl 105 232 lawK underMap zeroKept mb D rfl (fun _ h => h.2.2) (.agg (uvs l)) (keyLit l) rfl hkey y hy) hS0 ?_
  refine wpAnyH_take (i := 6) (v := ?_) rfl (by kernel_rfl) (by kernel_rfl) (by kernel_rfl) (fun _ _ _ h => h) (Or.inl ⟨by rfl, by intro w _; go_simp; with_reducible rfl⟩) hS0 ?_
  refine wpAnyH_take (i := 7) (v := ?_) rfl (by kernel_rfl) (by kernel_rfl) (by kernel_rfl) (fun _ _ _ h => h) (Or.inl ⟨by rfl, by intro w _; go_simp; with_reducible rfl⟩) hS0 ?_
  refine wpAnyH_take (i := 8) (v := ?_) rfl (by kernel_rfl) (by kernel_rfl) (by kernel_rfl) (fun _ _ _ h => h) (Or.inl ⟨by rfl, by intro w _; go_simp; with_reducible rfl⟩) hS0 ?_
  refine wpAnyH_one (i := 9) (by kernel_rfl) rfl rfl (fun K' hK' => ?_)
  go_simp
  obtain ⟨w3, hw3⟩ : ∃ w3, w3 = (w2.alloc (.cells #[.pointer none, .int .i64 0] 232)).drew := ⟨_, rfl⟩
  have hf3 : Fr No w2 w3 := by rw [hw3]; exact ((Fr.refl No w2).alloc _).drew
  have hob3 : w3.heap[ob]? = some (.cells #[.pointer none, .int .i64 0] 232 (0, 0)) := by rw [hw3, HOB.out, ← HS2.out]; exact alloc_at w2 _
  rw [← hw3]
  have hS3 : w3.heap[lb]? = some (.cells (uvs l) 105 (0, 0)) ∧ w3.cell? ⟨tsb, 3, none⟩ = some (.map (some mb)) ∧ OwnsK w3 mb D := ⟨hf3.at HZ2.out (no_no _), (HB2.out.fr hf3 (no_no _)).c3, ownsMap_fr HD2.out hf3 (no_no _)⟩
  refine hK' _ _ hS3 ?_
  clear hK' K'
  refine wpAnyH_one (i := 10) (by kernel_rfl) rfl rfl (fun K' hK' => ?_)
  refine wp_store_row 232 (.tmp 5) (.tmp 21) rfl ob #[.pointer y.1, .int .i64 y.2] (by rw [HOB.out, ← HS2.out]; rfl) rfl 232 #[.pointer none, .int .i64 0] hob3 (by kernel_rfl) rfl (by simp [Value.oneCell']) ?_
  obtain ⟨w4, hw4⟩ : ∃ w4, w4 = w3.setRow ob #[.pointer y.1, .int .i64 y.2] := ⟨_, rfl⟩
  have hobl : w2.heap.size ≤ ob := by rw [HOB.out, HS2.out]; exact Nat.le_refl _
  have hf4 : Fr No w2 w4 := by rw [hw4]; exact hf3.setRow hobl
  have hob4 : w4.heap[ob]? = some (.cells #[.pointer y.1, .int .i64 y.2] 232 (0, 0)) := by rw [hw4]; exact setRow_heap _ _ _ _ _ _ hob3
  rw [← hw4]
  have hb4 := HB2.out.fr hf4 (no_no _)
  have hS4 : w4.heap[lb]? = some (.cells (uvs l) 105 (0, 0)) ∧ w4.cell? ⟨tsb, 3, none⟩ = some (.map (some mb)) ∧ OwnsK w4 mb D := ⟨hf4.at HZ2.out (no_no _), hb4.c3, ownsMap_fr HD2.out hf4 (no_no _)⟩
  refine hK' _ _ hS4 ?_
  clear hK' K'
  refine wpAnyH_take (i := 11) (v := ?_) rfl (by kernel_rfl) (by kernel_rfl) (by kernel_rfl) (fun _ _ _ h => h) (Or.inl ⟨by rfl, by intro w _; go_simp; with_reducible rfl⟩) hS4 ?_
  refine wpAnyH_done (by kernel_rfl) ?_ _
  simp only [List.getElem_toArray, List.getElem_cons_succ, List.getElem_cons_zero]
  go_frame
  rw [HHIT.out]
  have hfw4 : Fr (Duo tsb mb) w w4 := HF2.out.trans (hf4.of_no (T := Duo tsb mb))
  have HB4 := hide hb4
  have HOB4 := hide hob4
  have HF4 := hide hf4
  have HFW4 := hide hfw4
  have HZ4 := hide hS4.1
  have HD4 := hide hS4.2.2
  have k42 := hb4.c2
  have k41 := hb4.c1
  have f41 := hb4.fz 1
  clear hb4 hob4 hf4 hfw4 hS4 hw4 hS3 hob3 hf3 hw3 hS0
  have hwo : w2.heap.size = ob := by rw [HOB.out, HS2.out]
  rw [hwo]
  have hobt : ob ≠ tsb := by have := HLB.out; have := HOB.out; omega
  have hobl : w.heap.size ≤ ob := by have := HLB.out; have := HOB.out; omega
  have hobb : ob ≠ mb := by omega
  have hw4s : ob < w4.heap.size := lt_of HOB4.out
  cases hh : c.hit l with
  | true =>
    obtain ⟨x, hx, hxl⟩ := List.any_eq_true.1 hh
    have hxl : x.1 = l := by simpa using hxl
    obtain ⟨tb, h3, s1, s2, ht⟩ := HH2.out.held x hx
    have hyy : y = (some ⟨tb, 0, none⟩, (x.2 : Int)) := by
      have := h3 (.held (none, 0))
      rw [hxl, hy] at this
      injection this
    subst hyy
    have ko1 : w4.cell? ⟨ob, 1, none⟩ = some (.int .i64 x.2) := by rw [cell_of HOB4.out]; rfl
    have fo1 : w4.frozen? ⟨ob, 1, none⟩ = false := frozen_of HOB4.out 1
    obtain ⟨wx, hwx⟩ : ∃ wx, wx = w4.setCell ⟨ob, 1, none⟩ (.int .i64 ((c.asked : Int) + 1)) := ⟨_, rfl⟩
    have hfx : Fr (One ob) w4 wx := by rw [hwx]; exact (Fr.refl _ _).setCell (fun _ => one_self ob) _
    have hfwx : Fr (Duo tsb mb) w wx := by rw [hwx]; exact HFW4.out.setCell (fun h => absurd h (by simpa using hobl)) _
    obtain ⟨K', hK'⟩ : ∃ K', K' = K0 := ⟨_, rfl⟩
    have hKx : ∀ k ∈ K0, ¬ One ob k := fun k hk e => by have e' : k = ob := e; have := HK.out k hk; omega
    have HM : Hid (Mid w wx K0 K' tsb mb lb ob tb c l D) := {
      blk := by rw [hh]; exact HB4.out.fr hfx (one_ne (fun e => hobt e.symm))
      own := ownsMap_fr HD4.out hfx (one_ne (fun e => hobb e.symm))
      holds := by rw [hK']; exact HH2.out.mono (fun tb x ⟨s1, s2, ht⟩ => ⟨s1, s2, (ht.frS HF4.out (fun _ _ => no_no _)).frS hfx hKx⟩)
      tab := by rw [hK', ← hxl]; exact ⟨s1, s2, (ht.frS HF4.out (fun _ _ => no_no _)).frS hfx hKx⟩
      len := hfx.at HZ4.out (one_ne (by have := HOB.out; omega))
      one := by rw [hwx, set_of HOB4.out]; rfl
      grow := by rw [hK']; exact Grow.refl _ _ _
      fr := hfwx }
    have HWX := hide hwx
    clear hwx hfx hfwx hK' hKx ht h3
    go_upto_region 7 with fail
    rw [← HWX.out]
    refine wp_region_held (S := fun W => W.heap[lb]? = some (.cells (uvs l) 105 (0, 0)) ∧ W.cell? ⟨tsb, 3, none⟩ = some (.map (some mb)) ∧ W.heap[ob]? = some (.cells #[.pointer (some ⟨tb, 0, none⟩), .int .i64 ((c.asked + 1 : Nat) : Int)] 232 (0, 0))) (by kernel_rfl) ?_
    change wpAnyH _ _ _ _ _ _ _ _ (World.drew _)
    have hSx : (World.drew wx).heap[lb]? = some (.cells (uvs l) 105 (0, 0)) ∧ (World.drew wx).cell? ⟨tsb, 3, none⟩ = some (.map (some mb)) ∧ (World.drew wx).heap[ob]? = some (.cells #[.pointer (some ⟨tb, 0, none⟩), .int .i64 ((c.asked + 1 : Nat) : Int)] 232 (0, 0)) := ⟨HM.out.len, HM.out.blk.c3, HM.out.one⟩
    refine wpAnyH_take (i := 0) (v := ?_) rfl (by kernel_rfl) (by kernel_rfl) (by kernel_rfl) (fun _ _ _ h => h) (Or.inl ⟨by rfl, by intro w _; go_simp; with_reducible rfl⟩) hSx ?_
    refine wpAnyH_take (i := 1) (v := ?_) rfl (by kernel_rfl) (by kernel_rfl) (by kernel_rfl) (fun _ _ _ h => h) (Or.inl ⟨by rfl, by intro w _; go_simp; with_reducible rfl⟩) hSx ?_
    refine wpAnyH_take (i := 2) (v := ?_) rfl (by kernel_rfl) (by kernel_rfl) (by kernel_rfl) (fun _ _ _ h => h) (Or.inl ⟨by rfl, by intro w _; go_simp; with_reducible rfl⟩) hSx ?_
    refine wpAnyH_take (i := 3) (v := .map (some mb)) rfl (by kernel_rfl) (by kernel_rfl) (by kernel_rfl) (fun _ _ _ h => h) (Or.inl ⟨by rfl, by intro w h; have h := h.2.1; go_simp⟩) hSx ?_
    refine wpAnyH_take (i := 4) (v := .agg (uvs l)) rfl (by kernel_rfl) (by kernel_rfl) (by kernel_rfl) (fun _ _ _ h => h) (yields_row rfl 105 (.tmp 3) rfl lb rfl 105 (uvs l) (0, 0) _ (fun _ h => h.1) Tryz.underlying105 rfl (by rw [hls]; kernel_rfl)) hSx ?_
    refine wpAnyH_take (i := 5) (v := .agg #[.pointer (some ⟨tb, 0, none⟩), .int .i64 ((c.asked + 1 : Nat) : Int)]) rfl (by kernel_rfl) (by kernel_rfl) (by kernel_rfl) (fun _ _ _ h => h) (yields_row rfl 232 (.tmp 5) rfl ob rfl 232 _ (0, 0) _ (fun _ h => h.2.2) Tryz.underlying232 rfl (by kernel_rfl)) hSx ?_
    refine wpAnyH_one (i := 6) (by kernel_rfl) rfl rfl (fun K'' hK' => ?_)
    have hownx : (World.drew wx).ownsMap Tryz.prog 105 RE mb (Maps.size D) D := HM.out.own
    have hval : RE (.agg #[.pointer (some ⟨tb, 0, none⟩), .int .i64 ((c.asked + 1 : Nat) : Int)]) = some (.held (some ⟨tb, 0, none⟩, ((c.asked + 1 : Nat) : Int)), []) := rfl
    simp only [List.getElem_toArray, List.getElem_cons_succ, List.getElem_cons_zero]
    go_frame
    refine wp_update (w := World.drew wx) (.tmp 43) (.tmp 44) (.tmp 45) 83 rfl 105 232 lawK underMap RE mb (Maps.size D) D rfl hownx (by unfold maxLen; omega) (.agg (uvs l)) (.agg #[.pointer (some ⟨tb, 0, none⟩), .int .i64 ((c.asked + 1 : Nat) : Int)]) (keyLit l) rfl rfl hkey (.held (some ⟨tb, 0, none⟩, ((c.asked + 1 : Nat) : Int))) [] hval ?_
    intro w7 hown7 hg7
    clear hownx hval
    have hf7 : Fr (One mb) wx w7 := (Fr.refl (One mb) wx).drew.trans (grown_fr hg7)
    have hlbm : lb ≠ mb := by have := HLB.out; omega
    have hobm : ob ≠ mb := by have := HLB.out; have := HOB.out; omega
    have hb7 := HM.out.blk.fr hf7 (one_ne (fun e => hne e.symm))
    have ho7 := hf7.at HM.out.one (one_ne hobm)
    refine hK' _ _ ⟨hf7.at HM.out.len (one_ne hlbm), hb7.c3, ho7⟩ ?_
    clear hK' K''
    refine wpAnyH_done (by kernel_rfl) ?_ _
    have hKm : ∀ k ∈ K', ¬ One mb k := fun k hk e => by
      have e' : k = mb := e
      rcases HM.out.grow.2 k hk with h | h
      · exact h2 (e' ▸ h)
      · omega
    have hH7 : Holds (TabIn w7 K') (D.put (keyLit l) (.held (some ⟨tb, 0, none⟩, ((c.asked + 1 : Nat) : Int)))) (c.turn l) := by
      refine Holds.put (Holds.mono HM.out.holds (fun tb x ⟨s1, s2, ht⟩ => ⟨s1, s2, ht.frS hf7 hKm⟩)) (HM.out.own.tidy lawK) keyOk_inj (fun x hx => hok.keys x hx) hok.apart hl ?_ (c.asked + 1)
      obtain ⟨s1, s2, ht⟩ := HM.out.tab
      exact ⟨s1, s2, ht.frS hf7 hKm⟩
    have hT7 : TabIn w7 K' tb l := by
      obtain ⟨s1, s2, ht⟩ := HM.out.tab
      exact ⟨s1, s2, ht.frS hf7 hKm⟩
    have hO7 := tight hown7
    generalize D.put (keyLit l) (.held (some ⟨tb, 0, none⟩, ((c.asked + 1 : Nat) : Int))) = D7 at hH7 hO7 hown7
    have hsz7 : Maps.size D7 = (c.turn l).length := hH7.size
    have hfw7 : Fr (Duo tsb mb) w w7 := HM.out.fr.trans hf7.toDuo2
    have hgr7 : Grow K0 K' w w7 := ⟨HM.out.grow.1, fun k hk => (HM.out.grow.2 k hk).imp id (fun h => ⟨h.1, Nat.lt_of_lt_of_le h.2 hf7.size⟩)⟩
    have HB7 := hide hb7
    have HH7 := hide hH7
    have HT7 := hide hT7
    have HO7 := hide hO7
    have HFW7 := hide hfw7
    have HGR7 := hide hgr7
    have HOB7 := hide ho7
    have k73 := hb7.c3
    have k70 := hb7.c0
    have ko7 : w7.cell? ⟨ob, 0, none⟩ = some (.pointer (some ⟨tb, 0, none⟩)) := by rw [cell_of ho7]; rfl
    clear hb7 hH7 hT7 hO7 hfw7 hgr7 hown7 hg7 hf7 ho7 hKm hSx
    simp only []
    go_frame
    go_upto_region 8 with fail
    refine wp_region_held (S := fun W => W.cell? ⟨tsb, 0, none⟩ = some (.int .i64 c.most) ∧ W.cell? ⟨tsb, 3, none⟩ = some (.map (some mb)) ∧ OwnsK W mb D7) (by kernel_rfl) ?_
    change wpAnyH _ _ _ _ _ _ _ _ (World.drew _)
    have hS7 : (World.drew w7).cell? ⟨tsb, 0, none⟩ = some (.int .i64 c.most) ∧ (World.drew w7).cell? ⟨tsb, 3, none⟩ = some (.map (some mb)) ∧ OwnsK (World.drew w7) mb D7 := ⟨k70, k73, HO7.out⟩
    refine wpAnyH_take (i := 0) (v := ?_) rfl (by kernel_rfl) (by kernel_rfl) (by kernel_rfl) (fun _ _ _ h => h) (Or.inl ⟨by rfl, by intro w _; go_simp; with_reducible rfl⟩) hS7 ?_
    refine wpAnyH_take (i := 1) (v := ?_) rfl (by kernel_rfl) (by kernel_rfl) (by kernel_rfl) (fun _ _ _ h => h) (Or.inl ⟨by rfl, by intro w _; go_simp; with_reducible rfl⟩) hS7 ?_
    refine wpAnyH_take (i := 2) (v := ?_) rfl (by kernel_rfl) (by kernel_rfl) (by kernel_rfl) (fun _ _ _ h => h) (Or.inl ⟨by rfl, by intro w _; go_simp; with_reducible rfl⟩) hS7 ?_
    refine wpAnyH_take (i := 3) (v := .map (some mb)) rfl (by kernel_rfl) (by kernel_rfl) (by kernel_rfl) (fun _ _ _ h => h) (Or.inl ⟨by rfl, by intro w h; have h := h.2.1; go_simp⟩) hS7 ?_
    refine wpAnyH_take (i := 4) (v := .int .i64 (Maps.size D7)) rfl (by kernel_rfl) (by kernel_rfl) (by kernel_rfl) (fun _ _ _ h => h) (yields_len rfl (.tmp 49) 83 rfl 105 232 underMap mb D7 rfl (fun _ h => h.2.2)) hS7 ?_
    refine wpAnyH_take (i := 5) (v := ?_) rfl (by kernel_rfl) (by kernel_rfl) (by kernel_rfl) (fun _ _ _ h => h) (Or.inl ⟨by rfl, by intro w _; go_simp; with_reducible rfl⟩) hS7 ?_
    refine wpAnyH_take (i := 6) (v := ?_) rfl (by kernel_rfl) (by kernel_rfl) (by kernel_rfl) (fun _ _ _ h => h) (Or.inl ⟨by rfl, by intro w _; go_simp; with_reducible rfl⟩) hS7 ?_
    refine wpAnyH_take (i := 7) (v := ?_) rfl (by kernel_rfl) (by kernel_rfl) (by kernel_rfl) (fun _ _ _ h => h) (Or.inl ⟨by rfl, by intro w _; go_simp; with_reducible rfl⟩) hS7 ?_
    refine wpAnyH_take (i := 8) (v := .int .i64 c.most) rfl (by kernel_rfl) (by kernel_rfl) (by kernel_rfl) (fun _ _ _ h => h) (Or.inl ⟨by rfl, by intro w h; have h := h.1; go_simp⟩) hS7 ?_
    refine wpAnyH_take (i := 9) (v := ?_) rfl (by kernel_rfl) (by kernel_rfl) (by kernel_rfl) (fun _ _ _ h => h) (Or.inl ⟨by rfl, by intro w _; go_simp; with_reducible rfl⟩) hS7 ?_
    refine wpAnyH_done (by kernel_rfl) ?_ _
    simp only [List.getElem_toArray, List.getElem_cons_succ, List.getElem_cons_zero]
    go_frame
    clear hS7
    have hdr : ∀ tb l, TabIn w7 K' tb l → TabIn (World.drew w7) K' tb l := fun _ _ ⟨s1, s2, ht⟩ => ⟨s1, s2, ht.frS ((Fr.refl No w7).drew) (fun _ _ => no_no _)⟩
    by_cases hover : c.most < (c.turn l).length
    · have hd : decide ((c.most : Int) < ((Maps.size D7 : Nat) : Int)) = true := by rw [hsz7]; simp; omega
      obtain ⟨x, rest, htn⟩ : ∃ x rest, c.turn l = x :: rest := by
        cases ht : c.turn l with
        | nil => rw [ht] at hover; simp at hover
        | cons x rest => exact ⟨x, rest, rfl⟩
      have hH8 : Holds (TabIn w7 K') D7 (x :: rest) := by have := HH7.out; rw [htn] at this; exact this
      have hk8 : ∀ y ∈ x :: rest, KeyOk y.1 := by have := hok.turn_keys hl.1 hl.2; rw [htn] at this; exact this
      have ha8 : (x :: rest).Pairwise (fun x y => x.1 ≠ y.1) := by have := hok.turn_apart (l := l); rw [htn] at this; exact this
      have hu8 : (x :: rest).Pairwise (fun x y => x.2 < y.2) := by have := hok.turn_up (l := l); rw [htn] at this; exact this
      have ht8 : ∀ y ∈ x :: rest, y.2 ≤ c.asked + 1 := by have := hok.turn_top (l := l); rw [htn] at this; exact this
      have HC := hide (oldest_any K' tsb mb c.most (if c.hit l then c.made else c.made + 1) (c.asked + 1) D7 x rest (World.drew w7) HB7.out HO7.out (hH8.mono hdr) hk8 ha8 hu8 ht8 (by omega) hne)
      have HDEL := hide (hH8.del (HO7.out.tidy lawK) keyOk_inj hk8 ha8)
      clear hH8 hk8 ha8 hu8 ht8
      go_wp2_with fail
      refine HC.out.mono ?_
      rintro e w8 ⟨rfl, hO8, hf8⟩
      have hf8 : Fr (One mb) w7 w8 := (Fr.refl (One mb) w7).drew.trans hf8
      have hb8 := HB7.out.fr hf8 (one_ne (fun e => hne e.symm))
      have ko8 : w8.cell? ⟨ob, 0, none⟩ = some (.pointer (some ⟨tb, 0, none⟩)) := by rw [cell_of (hf8.at HOB7.out (one_ne hobm))]; rfl
      have hKm : ∀ k ∈ K', ¬ One mb k := fun k hk e => by
        have e' : k = mb := e
        rcases HGR7.out.2 k hk with h | h
        · exact h2 (e' ▸ h)
        · omega
      go_wp2
      go_ret
      obtain ⟨s1, s2, ht⟩ := HT7.out
      refine ⟨tb, s1, s2, K', rfl, ht.frS hf8 hKm, ⟨hb8, hok.ask hl.1 hl.2, D7.del (keyLit x.1), hO8, ?_⟩, ⟨HGR7.out.1, fun k hk => (HGR7.out.2 k hk).imp id (fun h => ⟨h.1, Nat.lt_of_lt_of_le h.2 hf8.size⟩)⟩, HFW7.out.trans hf8.toDuo2⟩
      show Holds _ _ (if c.most < (c.turn l).length then (c.turn l).drop 1 else c.turn l)
      rw [if_pos hover, htn]
      exact HDEL.out.mono (fun tb y ⟨s1, s2, ht⟩ => ⟨s1, s2, ht.frS hf8 hKm⟩)
    · have hd : decide ((c.most : Int) < ((Maps.size D7 : Nat) : Int)) = false := by rw [hsz7]; simp; omega
      go_wp2
      go_ret
      obtain ⟨s1, s2, ht⟩ := HT7.out
      refine ⟨tb, s1, s2, K', rfl, ht.frS ((Fr.refl No w7).drew) (fun _ _ => no_no _), ⟨HB7.out, hok.ask hl.1 hl.2, D7, HO7.out, ?_⟩, HGR7.out, HFW7.out.drew⟩
      show Holds _ _ (if c.most < (c.turn l).length then (c.turn l).drop 1 else c.turn l)
      rw [if_neg hover]
      exact HH7.out.mono hdr
  | false =>
    have hyy : y = (none, 0) := by
      have := atKey_of_not_has (HHIT.out.trans hh) (DataW.held (none, 0))
      rw [hy] at this
      injection this
    subst hyy
    go_wp2_with (refine wpList_load_row rfl 105 (.tmp 3) rfl lb rfl 105 (uvs l) (0, 0) _ (by exact HZ4.out) Tryz.underlying105 rfl (by rw [hls]; kernel_rfl) ?_)
    refine (makeTable_any l _ hl.2 hl.1).mono ?_
    rintro e w5 ⟨tb, s1, s2, rfl, ht0, ht1, ht2, ht3, ht4, ht5, hTab, hf5⟩
    have hob5 := hf5.at HOB4.out (no_no _)
    have ko0 : w5.cell? ⟨ob, 0, none⟩ = some (.pointer none) := by rw [cell_of hob5]; rfl
    have fo0 : w5.frozen? ⟨ob, 0, none⟩ = false := frozen_of hob5 0
    obtain ⟨w6, hw6⟩ : ∃ w6, w6 = w5.setCell ⟨ob, 0, none⟩ (.pointer (some ⟨tb, 0, none⟩)) := ⟨_, rfl⟩
    have hob6 : w6.heap[ob]? = some (.cells #[.pointer (some ⟨tb, 0, none⟩), .int .i64 0] 232 (0, 0)) := by rw [hw6, set_of hob5]; rfl
    have hf6 : Fr (One ob) w5 w6 := by rw [hw6]; exact (Fr.refl _ _).setCell (fun _ => one_self ob) _
    have hb6 := (HB4.out.fr hf5 (no_no _)).fr hf6 (one_ne (fun e => hobt e.symm))
    have k61 := hb6.c1
    have f61 := hb6.fz 1
    obtain ⟨w8, hw8⟩ : ∃ w8, w8 = w6.setCell ⟨tsb, 1, none⟩ (.int .i64 ((c.made : Int) + 1)) := ⟨_, rfl⟩
    have hb8 : Tb w8 tsb c.most (c.made + 1) (c.asked + 1) mb := by rw [hw8]; exact hb6.s1 _ (c.made + 1) (by omega)
    have hf8 : Fr (One tsb) w6 w8 := by rw [hw8]; exact (Fr.refl _ _).setCell (fun _ => one_self tsb) _
    have hob8 := hf8.at hob6 (one_ne hobt)
    have k82 := hb8.c2
    have ko1 : w8.cell? ⟨ob, 1, none⟩ = some (.int .i64 0) := by rw [cell_of hob8]; rfl
    have fo1 : w8.frozen? ⟨ob, 1, none⟩ = false := frozen_of hob8 1
    obtain ⟨wx, hwx⟩ : ∃ wx, wx = w8.setCell ⟨ob, 1, none⟩ (.int .i64 ((c.asked : Int) + 1)) := ⟨_, rfl⟩
    have hfx : Fr (One ob) w8 wx := by rw [hwx]; exact (Fr.refl _ _).setCell (fun _ => one_self ob) _
    have hsw4 := HF4.out.size
    have hsw := HFW4.out.size
    have hs5 := hf5.size
    have hfwx : Fr (Duo tsb mb) w wx := by
      rw [hwx]
      refine Fr.setCell ?_ (fun h => absurd h (by simpa using hobl)) _
      refine Fr.trans ?_ hf8.toDuo
      rw [hw6]
      exact (HFW4.out.trans (hf5.of_no (T := Duo tsb mb))).setCell (fun h => absurd h (by simpa using hobl)) _
    obtain ⟨K', hK'⟩ : ∃ K', K' = [tb, s1, s2] ++ K0 := ⟨_, rfl⟩
    have hK1 : ∀ k ∈ K0, k < w.heap.size := HK.out
    have hk3 : ∀ k ∈ [tb, s1, s2], w4.heap.size ≤ k := fun k hk => by
      simp only [List.mem_cons, List.not_mem_nil, or_false] at hk
      rcases hk with rfl | rfl | rfl <;> assumption
    have hKb : ∀ k ∈ K', k ≠ ob ∧ k ≠ tsb := fun k hk => by
      rw [hK'] at hk
      rcases List.mem_append.1 hk with hk | hk
      · have := hk3 k hk; omega
      · have := hK1 k hk; exact ⟨by omega, fun e => h1 (e ▸ hk)⟩
    have hTx : ∀ {tb' : Nat} {l' : List Nat}, TabIn w5 K' tb' l' → TabIn wx K' tb' l' := fun ⟨s1, s2, ht⟩ => ⟨s1, s2, ((ht.frS hf6 (fun k hk => one_ne (hKb k hk).1)).frS hf8 (fun k hk => one_ne (hKb k hk).2)).frS hfx (fun k hk => one_ne (hKb k hk).1)⟩
    have HM : Hid (Mid w wx K0 K' tsb mb lb ob tb c l D) := {
      blk := by rw [hh]; exact hb8.fr hfx (one_ne (fun e => hobt e.symm))
      own := ownsMap_fr (ownsMap_fr (ownsMap_fr (ownsMap_fr HD4.out hf5 (no_no _)) hf6 (one_ne (fun e => hobb e.symm))) hf8 (one_ne hne)) hfx (one_ne (fun e => hobb e.symm))
      holds := HH2.out.mono (fun tb x ⟨s1', s2', ht⟩ => hTx ⟨s1', s2', ((ht.frS HF4.out (fun _ _ => no_no _)).frS hf5 (fun _ _ => no_no _)).sub (fun k hk => by rw [hK']; exact List.mem_append_right _ hk)⟩)
      tab := hTx ⟨s1, s2, hTab.sub (fun k hk => by rw [hK']; exact List.mem_append_left _ hk)⟩
      len := hfx.at (hf8.at (hf6.at (hf5.at HZ4.out (no_no _)) (one_ne (by have := HOB.out; omega))) (one_ne (by have := HLB.out; omega))) (one_ne (by have := HOB.out; omega))
      one := by rw [hwx, set_of hob8]; rfl
      grow := by
        rw [hK']
        refine ⟨fun k hk => List.mem_append_right _ hk, fun k hk => ?_⟩
        have hsx := hfx.size
        have hs8 := hf8.size
        have hs6 := hf6.size
        rcases List.mem_append.1 hk with hk | hk
        · refine Or.inr ?_
          simp only [List.mem_cons, List.not_mem_nil, or_false] at hk
          rcases hk with rfl | rfl | rfl <;> omega
        · exact Or.inl hk
      fr := hfwx }
    have HWX := hide hwx
    have HW6 := hide hw6
    have HW8 := hide hw8
    clear hwx hw6 hw8 hfx hfwx hK' hTx hKb hk3 hK1 hf8 hf6 hb6 hb8 hob8 hob6 hob5 hTab hf5
    go_upto_region 5 with fail
    rw [← HW6.out]
    go_upto_region 6 with fail
    rw [← HW8.out]
    go_upto_region 7 with fail
    rw [← HWX.out]
    refine wp_region_held (S := fun W => W.heap[lb]? = some (.cells (uvs l) 105 (0, 0)) ∧ W.cell? ⟨tsb, 3, none⟩ = some (.map (some mb)) ∧ W.heap[ob]? = some (.cells #[.pointer (some ⟨tb, 0, none⟩), .int .i64 ((c.asked + 1 : Nat) : Int)] 232 (0, 0))) (by kernel_rfl) ?_
    change wpAnyH _ _ _ _ _ _ _ _ (World.drew _)
    have hSx : (World.drew wx).heap[lb]? = some (.cells (uvs l) 105 (0, 0)) ∧ (World.drew wx).cell? ⟨tsb, 3, none⟩ = some (.map (some mb)) ∧ (World.drew wx).heap[ob]? = some (.cells #[.pointer (some ⟨tb, 0, none⟩), .int .i64 ((c.asked + 1 : Nat) : Int)] 232 (0, 0)) := ⟨HM.out.len, HM.out.blk.c3, HM.out.one⟩
    refine wpAnyH_take (i := 0) (v := ?_) rfl (by kernel_rfl) (by kernel_rfl) (by kernel_rfl) (fun _ _ _ h => h) (Or.inl ⟨by rfl, by intro w _; go_simp; with_reducible rfl⟩) hSx ?_
    refine wpAnyH_take (i := 1) (v := ?_) rfl (by kernel_rfl) (by kernel_rfl) (by kernel_rfl) (fun _ _ _ h => h) (Or.inl ⟨by rfl, by intro w _; go_simp; with_reducible rfl⟩) hSx ?_
    refine wpAnyH_take (i := 2) (v := ?_) rfl (by kernel_rfl) (by kernel_rfl) (by kernel_rfl) (fun _ _ _ h => h) (Or.inl ⟨by rfl, by intro w _; go_simp; with_reducible rfl⟩) hSx ?_
    refine wpAnyH_take (i := 3) (v := .map (some mb)) rfl (by kernel_rfl) (by kernel_rfl) (by kernel_rfl) (fun _ _ _ h => h) (Or.inl ⟨by rfl, by intro w h; have h := h.2.1; go_simp⟩) hSx ?_
    refine wpAnyH_take (i := 4) (v := .agg (uvs l)) rfl (by kernel_rfl) (by kernel_rfl) (by kernel_rfl) (fun _ _ _ h => h) (yields_row rfl 105 (.tmp 3) rfl lb rfl 105 (uvs l) (0, 0) _ (fun _ h => h.1) Tryz.underlying105 rfl (by rw [hls]; kernel_rfl)) hSx ?_
    refine wpAnyH_take (i := 5) (v := .agg #[.pointer (some ⟨tb, 0, none⟩), .int .i64 ((c.asked + 1 : Nat) : Int)]) rfl (by kernel_rfl) (by kernel_rfl) (by kernel_rfl) (fun _ _ _ h => h) (yields_row rfl 232 (.tmp 5) rfl ob rfl 232 _ (0, 0) _ (fun _ h => h.2.2) Tryz.underlying232 rfl (by kernel_rfl)) hSx ?_
    refine wpAnyH_one (i := 6) (by kernel_rfl) rfl rfl (fun K'' hK' => ?_)
    have hownx : (World.drew wx).ownsMap Tryz.prog 105 RE mb (Maps.size D) D := HM.out.own
    have hval : RE (.agg #[.pointer (some ⟨tb, 0, none⟩), .int .i64 ((c.asked + 1 : Nat) : Int)]) = some (.held (some ⟨tb, 0, none⟩, ((c.asked + 1 : Nat) : Int)), []) := rfl
    simp only [List.getElem_toArray, List.getElem_cons_succ, List.getElem_cons_zero]
    go_frame
    refine wp_update (w := World.drew wx) (.tmp 43) (.tmp 44) (.tmp 45) 83 rfl 105 232 lawK underMap RE mb (Maps.size D) D rfl hownx (by unfold maxLen; omega) (.agg (uvs l)) (.agg #[.pointer (some ⟨tb, 0, none⟩), .int .i64 ((c.asked + 1 : Nat) : Int)]) (keyLit l) rfl rfl hkey (.held (some ⟨tb, 0, none⟩, ((c.asked + 1 : Nat) : Int))) [] hval ?_
    intro w7 hown7 hg7
    clear hownx hval
    have hf7 : Fr (One mb) wx w7 := (Fr.refl (One mb) wx).drew.trans (grown_fr hg7)
    have hlbm : lb ≠ mb := by have := HLB.out; omega
    have hobm : ob ≠ mb := by have := HLB.out; have := HOB.out; omega
    have hb7 := HM.out.blk.fr hf7 (one_ne (fun e => hne e.symm))
    have ho7 := hf7.at HM.out.one (one_ne hobm)
    refine hK' _ _ ⟨hf7.at HM.out.len (one_ne hlbm), hb7.c3, ho7⟩ ?_
    clear hK' K''
    refine wpAnyH_done (by kernel_rfl) ?_ _
    have hKm : ∀ k ∈ K', ¬ One mb k := fun k hk e => by
      have e' : k = mb := e
      rcases HM.out.grow.2 k hk with h | h
      · exact h2 (e' ▸ h)
      · omega
    have hH7 : Holds (TabIn w7 K') (D.put (keyLit l) (.held (some ⟨tb, 0, none⟩, ((c.asked + 1 : Nat) : Int)))) (c.turn l) := by
      refine Holds.put (Holds.mono HM.out.holds (fun tb x ⟨s1, s2, ht⟩ => ⟨s1, s2, ht.frS hf7 hKm⟩)) (HM.out.own.tidy lawK) keyOk_inj (fun x hx => hok.keys x hx) hok.apart hl ?_ (c.asked + 1)
      obtain ⟨s1, s2, ht⟩ := HM.out.tab
      exact ⟨s1, s2, ht.frS hf7 hKm⟩
    have hT7 : TabIn w7 K' tb l := by
      obtain ⟨s1, s2, ht⟩ := HM.out.tab
      exact ⟨s1, s2, ht.frS hf7 hKm⟩
    have hO7 := tight hown7
    generalize D.put (keyLit l) (.held (some ⟨tb, 0, none⟩, ((c.asked + 1 : Nat) : Int))) = D7 at hH7 hO7 hown7
    have hsz7 : Maps.size D7 = (c.turn l).length := hH7.size
    have hfw7 : Fr (Duo tsb mb) w w7 := HM.out.fr.trans hf7.toDuo2
    have hgr7 : Grow K0 K' w w7 := ⟨HM.out.grow.1, fun k hk => (HM.out.grow.2 k hk).imp id (fun h => ⟨h.1, Nat.lt_of_lt_of_le h.2 hf7.size⟩)⟩
    have HB7 := hide hb7
    have HH7 := hide hH7
    have HT7 := hide hT7
    have HO7 := hide hO7
    have HFW7 := hide hfw7
    have HGR7 := hide hgr7
    have HOB7 := hide ho7
    have k73 := hb7.c3
    have k70 := hb7.c0
    have ko7 : w7.cell? ⟨ob, 0, none⟩ = some (.pointer (some ⟨tb, 0, none⟩)) := by rw [cell_of ho7]; rfl
    clear hb7 hH7 hT7 hO7 hfw7 hgr7 hown7 hg7 hf7 ho7 hKm hSx
    simp only []
    go_frame
    go_upto_region 8 with fail
    refine wp_region_held (S := fun W => W.cell? ⟨tsb, 0, none⟩ = some (.int .i64 c.most) ∧ W.cell? ⟨tsb, 3, none⟩ = some (.map (some mb)) ∧ OwnsK W mb D7) (by kernel_rfl) ?_
    change wpAnyH _ _ _ _ _ _ _ _ (World.drew _)
    have hS7 : (World.drew w7).cell? ⟨tsb, 0, none⟩ = some (.int .i64 c.most) ∧ (World.drew w7).cell? ⟨tsb, 3, none⟩ = some (.map (some mb)) ∧ OwnsK (World.drew w7) mb D7 := ⟨k70, k73, HO7.out⟩
    refine wpAnyH_take (i := 0) (v := ?_) rfl (by kernel_rfl) (by kernel_rfl) (by kernel_rfl) (fun _ _ _ h => h) (Or.inl ⟨by rfl, by intro w _; go_simp; with_reducible rfl⟩) hS7 ?_
    refine wpAnyH_take (i := 1) (v := ?_) rfl (by kernel_rfl) (by kernel_rfl) (by kernel_rfl) (fun _ _ _ h => h) (Or.inl ⟨by rfl, by intro w _; go_simp; with_reducible rfl⟩) hS7 ?_
    refine wpAnyH_take (i := 2) (v := ?_) rfl (by kernel_rfl) (by kernel_rfl) (by kernel_rfl) (fun _ _ _ h => h) (Or.inl ⟨by rfl, by intro w _; go_simp; with_reducible rfl⟩) hS7 ?_
    refine wpAnyH_take (i := 3) (v := .map (some mb)) rfl (by kernel_rfl) (by kernel_rfl) (by kernel_rfl) (fun _ _ _ h => h) (Or.inl ⟨by rfl, by intro w h; have h := h.2.1; go_simp⟩) hS7 ?_
    refine wpAnyH_take (i := 4) (v := .int .i64 (Maps.size D7)) rfl (by kernel_rfl) (by kernel_rfl) (by kernel_rfl) (fun _ _ _ h => h) (yields_len rfl (.tmp 49) 83 rfl 105 232 underMap mb D7 rfl (fun _ h => h.2.2)) hS7 ?_
    refine wpAnyH_take (i := 5) (v := ?_) rfl (by kernel_rfl) (by kernel_rfl) (by kernel_rfl) (fun _ _ _ h => h) (Or.inl ⟨by rfl, by intro w _; go_simp; with_reducible rfl⟩) hS7 ?_
    refine wpAnyH_take (i := 6) (v := ?_) rfl (by kernel_rfl) (by kernel_rfl) (by kernel_rfl) (fun _ _ _ h => h) (Or.inl ⟨by rfl, by intro w _; go_simp; with_reducible rfl⟩) hS7 ?_
    refine wpAnyH_take (i := 7) (v := ?_) rfl (by kernel_rfl) (by kernel_rfl) (by kernel_rfl) (fun _ _ _ h => h) (Or.inl ⟨by rfl, by intro w _; go_simp; with_reducible rfl⟩) hS7 ?_
    refine wpAnyH_take (i := 8) (v := .int .i64 c.most) rfl (by kernel_rfl) (by kernel_rfl) (by kernel_rfl) (fun _ _ _ h => h) (Or.inl ⟨by rfl, by intro w h; have h := h.1; go_simp⟩) hS7 ?_
    refine wpAnyH_take (i := 9) (v := ?_) rfl (by kernel_rfl) (by kernel_rfl) (by kernel_rfl) (fun _ _ _ h => h) (Or.inl ⟨by rfl, by intro w _; go_simp; with_reducible rfl⟩) hS7 ?_
    refine wpAnyH_done (by kernel_rfl) ?_ _
    simp only [List.getElem_toArray, List.getElem_cons_succ, List.getElem_cons_zero]
    go_frame
    clear hS7
    have hdr : ∀ tb l, TabIn w7 K' tb l → TabIn (World.drew w7) K' tb l := fun _ _ ⟨s1, s2, ht⟩ => ⟨s1, s2, ht.frS ((Fr.refl No w7).drew) (fun _ _ => no_no _)⟩
    by_cases hover : c.most < (c.turn l).length
    · have hd : decide ((c.most : Int) < ((Maps.size D7 : Nat) : Int)) = true := by rw [hsz7]; simp; omega
      obtain ⟨x, rest, htn⟩ : ∃ x rest, c.turn l = x :: rest := by
        cases ht : c.turn l with
        | nil => rw [ht] at hover; simp at hover
        | cons x rest => exact ⟨x, rest, rfl⟩
      have hH8 : Holds (TabIn w7 K') D7 (x :: rest) := by have := HH7.out; rw [htn] at this; exact this
      have hk8 : ∀ y ∈ x :: rest, KeyOk y.1 := by have := hok.turn_keys hl.1 hl.2; rw [htn] at this; exact this
      have ha8 : (x :: rest).Pairwise (fun x y => x.1 ≠ y.1) := by have := hok.turn_apart (l := l); rw [htn] at this; exact this
      have hu8 : (x :: rest).Pairwise (fun x y => x.2 < y.2) := by have := hok.turn_up (l := l); rw [htn] at this; exact this
      have ht8 : ∀ y ∈ x :: rest, y.2 ≤ c.asked + 1 := by have := hok.turn_top (l := l); rw [htn] at this; exact this
      have HC := hide (oldest_any K' tsb mb c.most (if c.hit l then c.made else c.made + 1) (c.asked + 1) D7 x rest (World.drew w7) HB7.out HO7.out (hH8.mono hdr) hk8 ha8 hu8 ht8 (by omega) hne)
      have HDEL := hide (hH8.del (HO7.out.tidy lawK) keyOk_inj hk8 ha8)
      clear hH8 hk8 ha8 hu8 ht8
      go_wp2_with fail
      refine HC.out.mono ?_
      rintro e w8 ⟨rfl, hO8, hf8⟩
      have hf8 : Fr (One mb) w7 w8 := (Fr.refl (One mb) w7).drew.trans hf8
      have hb8 := HB7.out.fr hf8 (one_ne (fun e => hne e.symm))
      have ko8 : w8.cell? ⟨ob, 0, none⟩ = some (.pointer (some ⟨tb, 0, none⟩)) := by rw [cell_of (hf8.at HOB7.out (one_ne hobm))]; rfl
      have hKm : ∀ k ∈ K', ¬ One mb k := fun k hk e => by
        have e' : k = mb := e
        rcases HGR7.out.2 k hk with h | h
        · exact h2 (e' ▸ h)
        · omega
      go_wp2
      go_ret
      obtain ⟨s1, s2, ht⟩ := HT7.out
      refine ⟨tb, s1, s2, K', rfl, ht.frS hf8 hKm, ⟨hb8, hok.ask hl.1 hl.2, D7.del (keyLit x.1), hO8, ?_⟩, ⟨HGR7.out.1, fun k hk => (HGR7.out.2 k hk).imp id (fun h => ⟨h.1, Nat.lt_of_lt_of_le h.2 hf8.size⟩)⟩, HFW7.out.trans hf8.toDuo2⟩
      show Holds _ _ (if c.most < (c.turn l).length then (c.turn l).drop 1 else c.turn l)
      rw [if_pos hover, htn]
      exact HDEL.out.mono (fun tb y ⟨s1, s2, ht⟩ => ⟨s1, s2, ht.frS hf8 hKm⟩)
    · have hd : decide ((c.most : Int) < ((Maps.size D7 : Nat) : Int)) = false := by rw [hsz7]; simp; omega
      go_wp2
      go_ret
      obtain ⟨s1, s2, ht⟩ := HT7.out
      refine ⟨tb, s1, s2, K', rfl, ht.frS ((Fr.refl No w7).drew) (fun _ _ => no_no _), ⟨HB7.out, hok.ask hl.1 hl.2, D7, HO7.out, ?_⟩, HGR7.out, HFW7.out.drew⟩
      show Holds _ _ (if c.most < (c.turn l).length then (c.turn l).drop 1 else c.turn l)
      rw [if_neg hover]
      exact HH7.out.mono hdr
end Go.Proofs.YtjjjlilflbddoaaGreatDoor
