import Derived.Test.YtjjjlilflbddoaaGreatDoorTell
import Derived.Test.YtjjjlilflbddoaaGreatDoorQKept
import Derived.Deep.RegionWith
import Derived.OrdersHeld
import Derived.Laws.Rows
/-
  The tables that are kept, in memory: Tables.ask.
-/
namespace Go.Proofs.YtjjjlilflbddoaaGreatDoor
open Go.RowKit Go.Maps Go.WideMaps

theorem arrK : ArrKey Tryz.prog 105 5 320 := ⟨Tryz.underlying105, by kernel_rfl, by kernel_rfl, by kernel_rfl⟩
theorem under5 : Tryz.prog.underlying 5 = some (.int .u8) := by kernel_rfl
theorem tysz : ∃ m, Tryz.prog.types.size = m + 1 := by
  obtain ⟨m, hm⟩ : ∃ m, m = Tryz.prog.types.size := ⟨_, rfl⟩
  cases m with
  | zero =>
    have h : (0 : Nat) < Tryz.prog.types.size := of_decide_eq_true (by kernel_rfl)
    omega
  | succ m => exact ⟨m, hm.symm⟩
theorem lawK : Keyed Tryz.prog 105 := Keyed.of_law arrK.law
theorem underMap : Tryz.prog.underlying 83 = some (.map 105 232) := by kernel_rfl
theorem zeroKept (w : World) : (zeroValue 232).run Tryz.prog w = .ok (mkE (none, 0)) w := by kernel_rfl
theorem keyOk_of {l : List Nat} (h : KeyOk l) : keyOf Tryz.prog 105 (.agg (uvs l)) = some (keyLit l) := key_mk arrK under5 tysz h.1 h.byte
theorem keyOk_inj {a b : List Nat} (ha : KeyOk a) (hb : KeyOk b) (h : keyLit a = keyLit b) : a = b := keyLit_inj arrK under5 tysz ha.1 ha.byte hb.1 hb.byte h

/-- 320 zeros. -/
def zeros320 : List Nat := List.replicate 320 0
theorem lens_z (n : Nat) : Lens (List.replicate n 0) := by
  intro i hi; rw [List.getD, List.getElem?_replicate]; split <;> simp
/-- The Tables' block. -/
def Tb (w : World) (tsb : Nat) (most made asked mb : Nat) : Prop := w.heap[tsb]? = some (.cells #[.int .i64 most, .int .i64 made, .int .i64 asked, .map (some mb)] 85 (0, 0))
section
variable {w : World} {tsb most made asked mb : Nat}
theorem Tb.c0 (h : Tb w tsb most made asked mb) : w.cell? ⟨tsb, 0, none⟩ = some (.int .i64 most) := by rw [cell_of h]; rfl
theorem Tb.c1 (h : Tb w tsb most made asked mb) : w.cell? ⟨tsb, 1, none⟩ = some (.int .i64 made) := by rw [cell_of h]; rfl
theorem Tb.c2 (h : Tb w tsb most made asked mb) : w.cell? ⟨tsb, 2, none⟩ = some (.int .i64 asked) := by rw [cell_of h]; rfl
theorem Tb.c3 (h : Tb w tsb most made asked mb) : w.cell? ⟨tsb, 3, none⟩ = some (.map (some mb)) := by rw [cell_of h]; rfl
theorem Tb.fz (h : Tb w tsb most made asked mb) (i : Nat) : w.frozen? ⟨tsb, i, none⟩ = false := frozen_of h i
theorem Tb.s1 (h : Tb w tsb most made asked mb) (z : Int) (n : Nat) (e : z = n) : Tb (w.setCell ⟨tsb, 1, none⟩ (.int .i64 z)) tsb most n asked mb := by subst e; unfold Tb; rw [set_of h]; rfl
theorem Tb.s2 (h : Tb w tsb most made asked mb) (z : Int) (n : Nat) (e : z = n) : Tb (w.setCell ⟨tsb, 2, none⟩ (.int .i64 z)) tsb most made n mb := by subst e; unfold Tb; rw [set_of h]; rfl
theorem Tb.fr {S : Nat → Prop} {w' : World} (h : Tb w tsb most made asked mb) (f : Fr S w w') (hs : ¬ S tsb) : Tb w' tsb most made asked mb := f.at h hs
end

abbrev TabIn (w : World) (K : List Nat) (tb : Nat) (l : List Nat) : Prop := ∃ s1 s2, TableAt w K tb s1 s2 (Gz.makeTable l)
abbrev OwnsK (w : World) (mb : Nat) (D : Dx) : Prop := w.ownsMap Tryz.prog 105 RE mb (Maps.size D) D

structure TabsAt (w : World) (K : List Nat) (tsb mb : Nat) (c : Gz.Tc) : Prop where
  blk : Tb w tsb c.most c.made c.asked mb
  ok : c.Ok
  map : ∃ D : Dx, OwnsK w mb D ∧ Holds (TabIn w K) D c.kept

def Duo (a b k : Nat) : Prop := k = a ∨ k = b
def Grow (K K' : List Nat) (w w' : World) : Prop := (∀ k ∈ K, k ∈ K') ∧ ∀ k ∈ K', k ∈ K ∨ (w.heap.size ≤ k ∧ k < w'.heap.size)
theorem Grow.refl (K : List Nat) (w w' : World) : Grow K K w w' := ⟨fun _ h => h, fun _ h => Or.inl h⟩

theorem ownsMap_fr {H : Type} {P : Program} {k : TypeId} {R : Value → Option (DataW H × List MemPlace)} {S : Nat → Prop} {w w' : World} {b n : Nat} {D : DataW H} (h : w.ownsMap P k R b n D) (f : Fr S w w') (hs : ¬ S b) : w'.ownsMap P k R b n D := by
  obtain ⟨es, clock, hb, r⟩ := h
  exact ⟨es, clock, (f.block b (by have := (Array.getElem?_eq_some_iff.1 hb).1; exact this) hs).trans hb, r⟩
theorem grown_fr {w w' : World} {b : Nat} (h : w.grownBy w' (some b)) : Fr (One b) w w' := ⟨h.os, h.tape, h.output, h.size, fun k hk hs => h.block k hk (fun e => hs (Option.some.inj e))⟩
theorem TableAt.frS {S : Nat → Prop} {K : List Nat} {w w' : World} {tb s1 s2 : Nat} {t : Gz.Table} (h : TableAt w K tb s1 s2 t) (f : Fr S w w') (hs : ∀ k ∈ K, ¬ S k) : TableAt w' K tb s1 s2 t :=
  ⟨h.syms.fr f (hs _ h.k0) (hs _ h.k1), h.dists.fr f (hs _ h.k0) (hs _ h.k2), h.g1, h.g2, h.k0, h.k1, h.k2, h.tg.fr f (hs _ h.k0) (hs _ h.k1) (hs _ h.k2)⟩
theorem TableAt.sub {K K' : List Nat} {w : World} {tb s1 s2 : Nat} {t : Gz.Table} (h : TableAt w K tb s1 s2 t) (hK : ∀ k ∈ K, k ∈ K') : TableAt w K' tb s1 s2 t := ⟨h.syms, h.dists, h.g1, h.g2, hK _ h.k0, hK _ h.k1, hK _ h.k2, h.tg⟩

section
variable {w w' : World} {K : List Nat} {tsb mb rb : Nat} {c : Gz.Tc} {s : RS}
theorem TabsAt.fr {S : Nat → Prop} (h : TabsAt w K tsb mb c) (f : Fr S w w') (h1 : ¬ S tsb) (h2 : ¬ S mb) (hK : ∀ k ∈ K, ¬ S k) : TabsAt w' K tsb mb c := by
  obtain ⟨D, hD, hH⟩ := h.map
  exact ⟨h.blk.fr f h1, h.ok, D, ownsMap_fr hD f h2, hH.mono (fun tb l ⟨s1, s2, ht⟩ => ⟨s1, s2, ht.frS f hK⟩)⟩
theorem TabsAt.ne (h : TabsAt w K tsb mb c) (hr : Rd w rb s) : tsb ≠ rb := by
  intro e
  have h1 : w.heap[tsb]? = _ := h.blk
  have h2 : w.heap[rb]? = _ := hr.1
  rw [e, h2] at h1
  simp at h1
theorem TabsAt.nem (h : TabsAt w K tsb mb c) (hr : Rd w rb s) : mb ≠ rb := by
  intro e
  obtain ⟨D, ⟨es, clock, hb, _⟩, _⟩ := h.map
  have h2 : w.heap[rb]? = _ := hr.1
  rw [e, h2] at hb
  simp at hb
theorem TabsAt.ne2 (h : TabsAt w K tsb mb c) : mb ≠ tsb := by
  intro e
  obtain ⟨D, ⟨es, clock, hb, _⟩, _⟩ := h.map
  have h2 : w.heap[tsb]? = _ := h.blk
  rw [e, h2] at hb
  simp at hb
theorem TabsAt.lt (h : TabsAt w K tsb mb c) : tsb < w.heap.size := lt_of h.blk
theorem TabsAt.ltm (h : TabsAt w K tsb mb c) : mb < w.heap.size := by
  obtain ⟨D, hD, _⟩ := h.map
  exact hD.lt
theorem TabsAt.sub {K' : List Nat} (h : TabsAt w K tsb mb c) (hK : ∀ k ∈ K, k ∈ K') : TabsAt w K' tsb mb c := by
  obtain ⟨D, hD, hH⟩ := h.map
  exact ⟨h.blk, h.ok, D, hD, hH.mono (fun tb l ⟨s1, s2, ht⟩ => ⟨s1, s2, ht.sub hK⟩)⟩
end

/-- What a range over the map comes to. -/
theorem met {Tb : Nat → List Nat → Prop} {D : Dx} {L : List (List Nat × Nat)} (hH : Holds Tb D L) (hk : ∀ x ∈ L, KeyOk x.1) {l : List Nat} {c : Option Addr × Int} {kl : Lit} {y : Dx × List MemPlace} (hkey : keyOf Tryz.prog 105 (.agg (uvs l)) = some kl)
    (hv : RE (mkE c) = some y) (hat : ∀ zd, D.atKey kl zd = y.1) : ∃ z ∈ L, l = z.1 ∧ kl = keyLit z.1 ∧ ∃ tb, c = (some ⟨tb, 0, none⟩, (z.2 : Int)) := by
  obtain ⟨l', e1, h1, h2, rfl⟩ := key_inv arrK under5 tysz hkey
  injection e1 with e1
  have e1 : l = l' := kus_inj e1
  subst e1
  obtain ⟨z, hz, e2⟩ := hH.only _ (has_true_of_atKey hat)
  have e3 : l = z.1 := keyLit_inj arrK under5 tysz h1 h2 (hk z hz).1 (hk z hz).byte e2
  obtain ⟨tb, h3, _⟩ := hH.held z hz
  have h4 := hat (.held c)
  have h5 := h3 (.held c)
  rw [e2] at h4
  rw [RE_mk] at hv
  have h6 : y = (.held c, []) := (Option.some.inj hv).symm
  rw [h6, h5] at h4
  injection h4 with h4
  exact ⟨z, hz, e3, e2, tb, h4.symm⟩

/-! In a region that draws its order, under S: loads may be taken first. -/
section
variable {P : Program} {ops : Array Oper} {S : World → Prop} {op : Oper} {a : Act}
theorem yields_row (hw : Region.wanted op (yielded ops a.tmps) = true) (ty : TypeId) (x : Operand) (ho : op.op = .load ty x) (g : Nat) (hx : a.eval x = .pointer (some ⟨g, 0, none⟩)) (t : TypeId) (cs : Array Value) (fr : Nat × Nat) (d : TypeDesc)
    (hS : ∀ w, S w → w.heap[g]? = some (.cells cs t fr)) (hu : P.underlying ty = some d) (hd : (match d with | .struct _ | .array _ _ => true | _ => false) = true) (hi : (P.info? ty).map (·.size) = some cs.size) : YieldsIf P ops S op (.agg cs) a :=
  .inl ⟨hw, fun w h => by
    unfold execOp
    simp only [ho, hx, Instr.loadAt, Instr.sureAddr, Sem.run_bind, Sem.run_pure, Result.andThen_ok, run_loadVar_row w g t ty cs fr d (hS w h) hu hd hi]⟩
theorem yields_look (hw : Region.wanted op (yielded ops a.tmps) = true) (t : TypeId) (m x : Operand) (hop : op.op = Op.lookup t m x true) (k e : TypeId) (Kk : Keyed P k) (ht : P.underlying t = some (.map k e)) (hz : ∀ w, (zeroValue e).run P w = .ok (mkE (none, 0)) w) (b : Nat) (D : Dx)
    (hm : a.eval m = .map (some b)) (hS : ∀ w, S w → w.ownsMap P k RE b (Maps.size D) D) (key : Value) (kl : Lit) (hx : a.eval x = key) (hkey : keyOf P k key = some kl) (y : Option Addr × Int) (hy : D.atKey kl (.held (none, 0)) = .held y) : YieldsIf P ops S op (.tuple #[mkE y, .bool (Maps.has D kl)]) a :=
  .inl ⟨hw, fun w h => by
    obtain ⟨v, ps, hrun, hv⟩ := (hS w h).look_ok Kk ht (hz w) (RE_mk (none, 0)) hkey
    obtain ⟨y', rfl, e1⟩ := RE_inv hv
    have e2 : y' = y := by
      have := congrArg Prod.fst e1
      simp only [hy] at this
      injection this with this
      exact this.symm
    subst e2
    unfold execOp
    simp only [hop, hm, hx, Sem.run_bind, Sem.run_pure, hrun, Result.andThen_ok]⟩
/-- The one that may come up now. -/
theorem wpAnyH_one {md : Region.Mode} {Q : Exit → Act → World → Prop} {i fuel : Nat} {listed : Array Bool} {w : World} (hr : Region.ready md ops listed = [i]) (ho : ops[i]? = some op) (hw : Region.wanted op (yielded ops a.tmps) = true)
    (h : ∀ K' : Act → World → Prop, (∀ a' w', S w' → wpAnyH P md ops Q S fuel (listed.setIfInBounds i true) a' w' → K' a' w') → Oper.wp P op a w K' Q) : wpAnyH P md ops Q S (fuel + 1) listed a w := by
  refine wpAnyH_all hr (by simp) (fun j hj => ?_)
  rw [List.mem_singleton.1 hj]
  unfold Go.wpOp
  simp only [ho, hw, if_true]
  exact .inl (h _ (fun _ _ h1 h2 => ⟨h1, h2⟩))
theorem wp_delete {H : Type} {K : Act → World → Prop} {Q : Exit → Act → World → Prop} {w : World} (m x : Operand) (t k : TypeId) (hop : op.op = Op.call { callee := Callee.builtin Builtin.delete, args := #[m, x], argTypes := #[t, k] })
    (e : TypeId) (Kk : Keyed P k) (ht : P.underlying t = some (.map k e)) (R : Value → Option (DataW H × List MemPlace)) (b n : Nat) (D : DataW H)
    (hm : a.eval m = .map (some b)) (hown : w.ownsMap P k R b n D) (key : Value) (kl : Lit) (hx : a.eval x = key) (hkey : keyOf P k key = some kl)
    (hK : ∀ w', w'.ownsMap P k R b n (D.del kl) → w.mapTurned w' b → K (a.put op.dst (.tuple #[])) w') : Oper.wp P op a w K Q := by
  obtain ⟨w', hrun, r1, r2⟩ := hown.drop Kk ht hkey op.type
  unfold Oper.wp
  simp [execOp, hop, resolve, invoke, builtin, hm, hx, hrun, Result.andThen]
  exact hK w' r1 r2
theorem wp_update {H : Type} {K : Act → World → Prop} {Q : Exit → Act → World → Prop} {w : World} (m x v : Operand) (t : TypeId) (hop : op.op = Op.mapUpdate t m x v)
    (k e : TypeId) (Kk : Keyed P k) (ht : P.underlying t = some (.map k e)) (R : Value → Option (DataW H × List MemPlace)) (b n : Nat) (D : DataW H)
    (hm : a.eval m = .map (some b)) (hown : w.ownsMap P k R b n D) (hn : n < maxLen) (key val : Value) (kl : Lit) (hx : a.eval x = key) (hv : a.eval v = val) (hkey : keyOf P k key = some kl) (d : DataW H) (ps : List MemPlace) (hval : R val = some (d, ps))
    (hK : ∀ w', w'.ownsMap P k R b (n + 1) (D.put kl d) → w.grownBy w' (some b) → K (a.put op.dst undef) w') : Oper.wp P op a w K Q := by
  obtain ⟨w', hrun, r1, r2⟩ := hown.update Kk ht hn hkey hval
  unfold Oper.wp
  simp [execOp, hop, hm, hx, hv, hrun, Result.andThen]
  exact hK w' r1 r2
end

theorem Fr.new {w w1 w2 : World} {b : Nat} (h : Fr No w w1) (h2 : Fr (One b) w1 w2) (hb : w.heap.size ≤ b) : Fr No w w2 :=
  ⟨h2.os.trans h.os, h2.tape.trans h.tape, h2.output.trans h.output, Nat.le_trans h.size h2.size, fun k hk _ => (h2.block k (Nat.lt_of_lt_of_le hk h.size) (one_ne (by omega))).trans (h.block k hk (no_no _))⟩

set_option maxRecDepth 100000 in
set_option maxHeartbeats 1600000 in
theorem oldest_any (K : List Nat) (tsb mb most made asked : Nat) (D : Dx) (x : List Nat × Nat) (kept : List (List Nat × Nat)) (w : World) (hb : Tb w tsb most made asked mb) (hD : OwnsK w mb D) (hH : Holds (TabIn w K) D (x :: kept))
    (hk : ∀ y ∈ x :: kept, KeyOk y.1) (hap : (x :: kept).Pairwise (fun x y => x.1 ≠ y.1)) (hup : (x :: kept).Pairwise (fun x y => x.2 < y.2)) (htop : ∀ y ∈ x :: kept, y.2 ≤ asked) (ha : asked < 2 ^ 62 + 1) (hne : mb ≠ tsb) :
    Calls Tryz.prog 137 #[.pointer (some ⟨tsb, 0, none⟩)] w fun e w' => e = .returned (.tuple #[]) ∧ OwnsK w' mb (D.del (keyLit x.1)) ∧ Fr (One mb) w w' := by
  have hbl := lt_of hb
  have hml := hD.lt
  have h0 : Tb (w.alloc (.cells Tryz.zeroCells105 105)) tsb most made asked mb := alloc_old hb
  have hD0 : OwnsK (w.alloc (.cells Tryz.zeroCells105 105)) mb D := hD.alloc _
  have hz0 : (w.alloc (.cells Tryz.zeroCells105 105)).heap[w.heap.size]? = some (.cells (uvs zeros320) 105 (0, 0)) := alloc_at w _
  have hf0 : Fr No w (w.alloc (.cells Tryz.zeroCells105 105)) := (Fr.refl _ _).alloc _
  have e1 : (w.alloc (.cells Tryz.zeroCells105 105)).heap.size = w.heap.size + 1 := by simp
  have k2 := h0.c2
  have k3 := h0.c3
  have HB := hide h0
  have HZ := hide hz0
  have HF := hide hf0
  have HH := hide hH
  have HK := hide hk
  have HAP := hide hap
  have HUP := hide hup
  have HTOP := hide htop
  clear hb h0 hz0 hf0 hH hk hap hup htop
  go_enter Tryz.func137, Tryz.ntmps137
  go_wp2_with (at_range; refine wpList_range_own _ rfl _ 83 rfl 105 232 lawK underMap RE mb _ D rfl hD0 ?_; intro w1 hrg1 hg1 hs1)
  go_frame
  rw [e1] at hrg1 hs1 ⊢
  go_loopw [3] (fun ahv wr => ∃ (o : List Nat) (ah : Nat) (left : Lit → Bool) (cnt : Nat), ahv = .int .i64 (ah : Nat) ∧ KeyOk o ∧ ah ≤ asked + 1 ∧ wr.heap[w.heap.size]? = some (.cells (uvs o) 105 (0, 0)) ∧ wr.ranges Tryz.prog 105 RE mb (w.heap.size + 1) (Maps.size D) D left cnt ∧ Hid (OldAt (x :: kept) asked left o ah) ∧ Tb wr tsb most made asked mb ∧ Fr No w wr)
    (fun _ wr => wr.rangeLeft mb (w.heap.size + 1))
  case atStart =>
    have hf1 := grown_frNo hg1
    exact ⟨zeros320, asked + 1, Maps.has D, Maps.size D, by go_num, ⟨by simp [zeros320], lens_z _⟩, Nat.le_refl _, hf1.at HZ.out (no_no _), hrg1, OldAt.start (fun y hy => HH.out.has hy), HB.out.fr hf1 (no_no _), HF.out.trans hf1⟩
  case round =>
    obtain ⟨o, ah, left, cnt, rfl, ho, hah, hz, hrg, hold, hb, hfr⟩ := hrel
    have hsz := hfr.size
    go_wp2_with (at_next; refine wpList_next_ranges _ rfl _ rfl 105 lawK RE (fun l : List Nat => .agg (uvs l)) mkE (fun key kl hk => by obtain ⟨l, e, _⟩ := key_inv arrK under5 tysz hk; exact ⟨l, e⟩) (fun v y hv => by obtain ⟨c, e, _⟩ := RE_inv hv; exact ⟨c, e⟩) mb (w.heap.size + 1) _ D left cnt rfl hrg ?_ ?_)
    · intro _ hl0
      have hox : o = x.1 := OldAt.last hold.out hl0 HUP.out (HTOP.out x (List.mem_cons_self ..))
      have hown : OwnsK wr mb D := hrg.owns
      have hkey := keyOk_of ho
      have HZR := hide hz
      have HBR := hide hb
      rw [hox] at hkey
      clear hz hb
      go_wp2
      refine wp_region_held (S := fun W => W.heap[w.heap.size]? = some (.cells (uvs o) 105 (0, 0)) ∧ W.cell? ⟨tsb, 3, none⟩ = some (.map (some mb))) (by kernel_rfl) ?_
      change wpAnyH _ _ _ _ _ _ _ _ (World.drew _)
      have hS0 : (World.drew wr).heap[w.heap.size]? = some (.cells (uvs o) 105 (0, 0)) ∧ (World.drew wr).cell? ⟨tsb, 3, none⟩ = some (.map (some mb)) := ⟨HZR.out, HBR.out.c3⟩
      refine wpAnyH_take (i := 0) (v := ?_) rfl (by kernel_rfl) (by kernel_rfl) (by kernel_rfl) (fun _ _ _ h => h) (Or.inl ⟨by rfl, by intro w _; go_simp; with_reducible rfl⟩) hS0 ?_
      refine wpAnyH_take (i := 1) (v := ?_) rfl (by kernel_rfl) (by kernel_rfl) (by kernel_rfl) (fun _ _ _ h => h) (Or.inl ⟨by rfl, by intro w _; go_simp; with_reducible rfl⟩) hS0 ?_
      refine wpAnyH_take (i := 2) (v := ?_) rfl (by kernel_rfl) (by kernel_rfl) (by kernel_rfl) (fun _ _ _ h => h) (Or.inl ⟨by rfl, by intro w _; go_simp; with_reducible rfl⟩) hS0 ?_
      refine wpAnyH_take (i := 3) (v := .map (some mb)) rfl (by kernel_rfl) (by kernel_rfl) (by kernel_rfl) (fun _ _ _ h => h) (Or.inl ⟨by rfl, by intro w h; have h := h.2; go_simp⟩) hS0 ?_
      refine wpAnyH_take (i := 4) (v := .agg (uvs o)) rfl (by kernel_rfl) (by kernel_rfl) (by kernel_rfl) (fun _ _ _ h => h) (yields_row rfl 105 (.tmp 2) rfl w.heap.size rfl 105 (uvs o) (0, 0) _ (fun _ h => h.1) Tryz.underlying105 rfl (by rw [uvs_size, ho.1]; kernel_rfl)) hS0 ?_
      refine wpAnyH_one (i := 5) (by kernel_rfl) rfl rfl (fun K' hK' => ?_)
      refine wp_delete (.tmp 31) (.tmp 32) 83 105 rfl _ lawK underMap RE mb (Maps.size D) D rfl hown _ (keyLit x.1) (by rw [← hox]; rfl) hkey ?_
      intro w3 hown3 hturn3
      have hf3 : Fr (One mb) wr w3 := (Fr.refl (One mb) wr).drew.trans (grown_fr hturn3.grown)
      have hmz : mb ≠ w.heap.size := by omega
      have hmt : tsb ≠ mb := fun e => hne e.symm
      refine hK' _ _ ⟨hf3.at HZR.out (one_ne (fun e => hmz e.symm)), (HBR.out.fr hf3 (one_ne hmt)).c3⟩ ?_
      clear hK' K'
      refine wpAnyH_done (by kernel_rfl) ?_ _
      go_wp2
      go_end0
      exact ⟨rfl, tight hown3, (hfr.of_no (T := One mb)).trans hf3⟩
    · intro l cp ca kl yd yp w2 cnt2 hkey hlk hv hat hrg2 hlt hg2 hs2 hen
      obtain ⟨z, hzm, rfl, rfl, tb, hc⟩ := met HH.out HK.out (c := (cp, ca)) (y := (yd, yp)) hkey hv hat
      injection hc with hc1 hc2
      subst hc1 hc2
      simp only [mkE] at hen ⊢
      have hfr2 : Fr No w w2 := hfr.new (grown_fr hg2) (by omega)
      have hsz2 := hfr2.size
      have hz2 : w2.heap[w.heap.size]? = some (.cells (uvs o) 105 (0, 0)) := (grown_fr hg2).at hz (one_ne (by omega))
      have hb2 : Tb w2 tsb most made asked mb := hb.fr (grown_fr hg2) (one_ne (by omega))
      obtain ⟨w3, hw3⟩ : ∃ w3, w3 = (w2.alloc (.cells Tryz.zeroCells105 105)).alloc (.cells #[.pointer none, .int .i64 0] 232) := ⟨_, rfl⟩
      have ha3 : w3.heap[w2.heap.size]? = some (.cells (uvs zeros320) 105 (0, 0)) := by rw [hw3]; exact alloc_old (alloc_at w2 _)
      have hb3 : w3.heap[w2.heap.size + 1]? = some (.cells #[.pointer none, .int .i64 0] 232 (0, 0)) := by
        rw [hw3]; have := alloc_at (w2.alloc (.cells Tryz.zeroCells105 105)) (.cells #[.pointer none, .int .i64 0] 232); simpa using this
      obtain ⟨w4, hw4⟩ : ∃ w4, w4 = w3.setRow w2.heap.size (uvs z.1) := ⟨_, rfl⟩
      have ha4 : w4.heap[w2.heap.size]? = some (.cells (uvs z.1) 105 (0, 0)) := by rw [hw4]; exact setRow_heap _ _ _ _ _ _ ha3
      have hb4 : w4.heap[w2.heap.size + 1]? = some (.cells #[.pointer none, .int .i64 0] 232 (0, 0)) := by rw [hw4, setRow_other _ _ _ _ (by omega)]; exact hb3
      obtain ⟨w5, hw5⟩ : ∃ w5, w5 = w4.setRow (w2.heap.size + 1) #[.pointer (some ⟨tb, 0, none⟩), .int .i64 z.2] := ⟨_, rfl⟩
      have ha5 : w5.heap[w2.heap.size]? = some (.cells (uvs z.1) 105 (0, 0)) := by rw [hw5, setRow_other _ _ _ _ (by omega)]; exact ha4
      have hb5 : w5.heap[w2.heap.size + 1]? = some (.cells #[.pointer (some ⟨tb, 0, none⟩), .int .i64 z.2] 232 (0, 0)) := by rw [hw5]; exact setRow_heap _ _ _ _ _ _ hb4
      have hf5 : Fr No w2 w5 := by rw [hw5, hw4, hw3]; exact ((((Fr.refl No w2).alloc _).alloc _).setRow (Nat.le_refl _)).setRow (by omega)
      have k51 : w5.cell? ⟨w2.heap.size + 1, 1, none⟩ = some (.int .i64 z.2) := by rw [cell_of hb5]; rfl
      have hzk := HK.out z hzm
      have hzt := HTOP.out z hzm
      have hzs : (uvs z.1).size = 320 := by rw [uvs_size]; exact hzk.1
      have e2 : (w2.alloc (.cells Tryz.zeroCells105 105)).heap.size = w2.heap.size + 1 := by simp
      have HS2 := hide hs2
      have HA3 := hide ha3
      have HB4 := hide hb4
      have HW3 := hide hw3
      have HW4 := hide hw4
      have HW5 := hide hw5
      have HA5 := hide ha5
      have HB5 := hide hb5
      have HZ2 := hide hz2
      have HB2 := hide hb2
      have HF5 := hide hf5
      clear ha3 hb3 hw3 hw4 hw5 ha4 hb4 ha5 hb5 hz2 hb2 hf5 hz hb hs2
      by_cases hlt2 : z.2 < ah
      · have hd : decide ((z.2 : Int) < (ah : Int)) = true := by simp; omega
        go_wp2_with (first
          | (refine wpList_store_row rfl 105 (.tmp 4) (.tmp 19) rfl w2.heap.size (uvs z.1) rfl rfl 105 (uvs zeros320) (by rw [← HW3.out]; exact HA3.out) (by rw [hzs]; kernel_rfl) (by rw [hzs]; rfl) (by simp [uvs, uv, Value.oneCell']) ?_)
          | (refine wpList_store_row rfl 232 (.tmp 5) (.tmp 20) rfl (w2.heap.size + 1) #[.pointer (some ⟨tb, 0, none⟩), .int .i64 z.2] rfl rfl 232 #[.pointer none, .int .i64 0] (by rw [← HW3.out, ← HW4.out]; exact HB4.out) (by kernel_rfl) rfl (by simp [Value.oneCell']) ?_; rw [← HW3.out, ← HW4.out, ← HW5.out]))
        have hsz5 := HF5.out.size
        have hrl := hrg.lt
        have hwo : w.heap.size ≠ w2.heap.size := by have := HS2.out; omega
        have hwo2 : w.heap.size ≠ w2.heap.size + 1 := by have := HS2.out; omega
        have hz5 : w5.heap[w.heap.size]? = some (.cells (uvs o) 105 (0, 0)) := HF5.out.at HZ2.out (no_no _)
        have HZ5 := hide hz5
        clear hz5
        refine wp_region_held (S := fun W => W.heap[w2.heap.size]? = some (.cells (uvs z.1) 105 (0, 0)) ∧ W.heap[w2.heap.size + 1]? = some (.cells #[.pointer (some ⟨tb, 0, none⟩), .int .i64 z.2] 232 (0, 0))) (by kernel_rfl) ?_
        change wpAnyH _ _ _ _ _ _ _ _ (World.drew _)
        have hS0 : (World.drew w5).heap[w2.heap.size]? = some (.cells (uvs z.1) 105 (0, 0)) ∧ (World.drew w5).heap[w2.heap.size + 1]? = some (.cells #[.pointer (some ⟨tb, 0, none⟩), .int .i64 z.2] 232 (0, 0)) := ⟨HA5.out, HB5.out⟩
        refine wpAnyH_take (i := 0) (v := .agg (uvs z.1)) rfl (by kernel_rfl) (by kernel_rfl) (by kernel_rfl) (fun _ _ _ h => h) (yields_row rfl 105 (.tmp 4) rfl w2.heap.size rfl 105 (uvs z.1) (0, 0) _ (fun _ h => h.1) Tryz.underlying105 rfl (by rw [hzs]; kernel_rfl)) hS0 ?_
        refine wpAnyH_take (i := 1) (v := ?_) rfl (by kernel_rfl) (by kernel_rfl) (by kernel_rfl) (fun _ _ _ h => h) (Or.inl ⟨by rfl, by intro w _; go_simp; with_reducible rfl⟩) hS0 ?_
        refine wpAnyH_take (i := 2) (v := .int .i64 z.2) rfl (by kernel_rfl) (by kernel_rfl) (by kernel_rfl) (fun _ _ _ h => h) (Or.inl ⟨by rfl, by intro w h; have h : w.cell? ⟨w2.heap.size + 1, 1, none⟩ = some (.int .i64 z.2) := by { rw [cell_of h.2]; rfl }; go_simp⟩) hS0 ?_
        refine wpAnyH_one (i := 3) (by kernel_rfl) rfl rfl (fun K' hK' => ?_)
        refine wp_store_row 105 (.tmp 2) (.tmp 25) rfl w.heap.size (uvs z.1) rfl rfl 105 (uvs o) HZ5.out (by rw [hzs]; kernel_rfl) (by rw [hzs, uvs_size]; exact ho.1) (by simp [uvs, uv, Value.oneCell']) ?_
        refine hK' _ _ ⟨by rw [setRow_other _ _ _ _ (fun e => hwo e.symm)]; exact HA5.out, by rw [setRow_other _ _ _ _ (fun e => hwo2 e.symm)]; exact HB5.out⟩ ?_
        clear hK' K'
        refine wpAnyH_take (i := 4) (v := ?_) rfl (by kernel_rfl) (by kernel_rfl) (by kernel_rfl) (fun _ _ _ h => h) (Or.inl ⟨by rfl, by intro w _; go_simp; with_reducible rfl⟩) ⟨by rw [setRow_other _ _ _ _ (fun e => hwo e.symm)]; exact HA5.out, by rw [setRow_other _ _ _ _ (fun e => hwo2 e.symm)]; exact HB5.out⟩ ?_
        refine wpAnyH_done (by kernel_rfl) ?_ _
        have hrg6 : ((World.drew w5).setRow w.heap.size (uvs z.1)).ranges Tryz.prog 105 RE mb (w.heap.size + 1) (Maps.size D) D (fun z' => left z' && !z'.sameKey (keyLit z.1)) cnt2 := by
          refine hrg2.kept (row := some w.heap.size) ⟨HF5.out.os, HF5.out.tape, HF5.out.output, by rw [size_setRow]; exact hsz5, fun k hk hne' => ?_⟩ (fun e => by injection e with e; omega) (fun e => by injection e with e; omega)
          rw [setRow_other _ _ _ _ (fun e => hne' (by rw [e]))]
          exact HF5.out.block k hk (no_no _)
        simp only [List.getElem_toArray, List.getElem_cons_succ, List.getElem_cons_zero]
        go_frame
        go_wp2
        go_roundw
        case rel =>
          refine ⟨z.1, z.2, _, cnt2, rfl, hzk, by omega, setRow_heap _ _ _ _ _ _ HZ5.out, hrg6, hold.out.less keyOk_inj HK.out HAP.out hzm hlt2, ?_, ?_⟩
          · show ((World.drew w5).setRow w.heap.size (uvs z.1)).heap[tsb]? = _
            rw [setRow_other _ _ _ _ (by omega)]
            exact HB2.out.fr HF5.out.drew (no_no _)
          · exact ((hfr2.trans HF5.out).drew).setRow (Nat.le_refl _)
        case measure => rw [hrg6.left_eq, hrg.left_eq]; exact hlt
      · have hd : decide ((z.2 : Int) < (ah : Int)) = false := by simp; omega
        go_wp2_with (first
          | (refine wpList_store_row rfl 105 (.tmp 4) (.tmp 19) rfl w2.heap.size (uvs z.1) rfl rfl 105 (uvs zeros320) (by rw [← HW3.out]; exact HA3.out) (by rw [hzs]; kernel_rfl) (by rw [hzs]; rfl) (by simp [uvs, uv, Value.oneCell']) ?_)
          | (refine wpList_store_row rfl 232 (.tmp 5) (.tmp 20) rfl (w2.heap.size + 1) #[.pointer (some ⟨tb, 0, none⟩), .int .i64 z.2] rfl rfl 232 #[.pointer none, .int .i64 0] (by rw [← HW3.out, ← HW4.out]; exact HB4.out) (by kernel_rfl) rfl (by simp [Value.oneCell']) ?_; rw [← HW3.out, ← HW4.out, ← HW5.out]))
        have hrg6 : w5.ranges Tryz.prog 105 RE mb (w.heap.size + 1) (Maps.size D) D (fun z' => left z' && !z'.sameKey (keyLit z.1)) cnt2 :=
          hrg2.kept (row := none) ⟨HF5.out.os, HF5.out.tape, HF5.out.output, HF5.out.size, fun k hk _ => HF5.out.block k hk (no_no _)⟩ (by simp) (by simp)
        go_roundw
        case rel => exact ⟨o, ah, _, cnt2, rfl, ho, hah, HF5.out.at HZ2.out (no_no _), hrg6, hold.out.more keyOk_inj HK.out HAP.out hzm hlt2, HB2.out.fr HF5.out (no_no _), hfr2.trans HF5.out⟩
        case measure => rw [hrg6.left_eq, hrg.left_eq]; exact hlt
end Go.Proofs.YtjjjlilflbddoaaGreatDoor
namespace Go.Proofs.YtjjjlilflbddoaaGreatDoor
open Go.RowKit Go.Maps Go.WideMaps

theorem Fr.toDuo {a b : Nat} {w w' : World} (f : Fr (One a) w w') : Fr (Duo a b) w w' := f.mono (fun _ _ e => Or.inl e)
theorem Fr.toDuo2 {a b : Nat} {w w' : World} (f : Fr (One b) w w') : Fr (Duo a b) w w' := f.mono (fun _ _ e => Or.inr e)

/-- Ahead of the store into the map: the table lies in tb; one lies in block ob. -/
structure Mid (w0 w : World) (K0 K' : List Nat) (tsb mb lb ob tb : Nat) (c : Gz.Tc) (l : List Nat) (D : Dx) : Prop where
  blk : Tb w tsb c.most (if c.hit l then c.made else c.made + 1) (c.asked + 1) mb
  own : OwnsK w mb D
  holds : Holds (TabIn w K') D c.kept
  tab : TabIn w K' tb l
  len : w.heap[lb]? = some (.cells (uvs l) 105 (0, 0))
  one : w.heap[ob]? = some (.cells #[.pointer (some ⟨tb, 0, none⟩), .int .i64 ((c.asked + 1 : Nat) : Int)] 232 (0, 0))
  grow : Grow K0 K' w0 w
  fr : Fr (Duo tsb mb) w0 w
theorem yields_len {P : Program} {ops : Array Oper} {S : World → Prop} {op : Oper} {a : Act} (hw : Region.wanted op (yielded ops a.tmps) = true) (m : Operand) (t : TypeId) (hop : op.op = Op.call { callee := Callee.builtin Builtin.len, args := #[m], argTypes := #[t] })
    (k e : TypeId) (ht : P.underlying t = some (.map k e)) (b : Nat) (D : Dx) (hm : a.eval m = .map (some b)) (hS : ∀ w, S w → w.ownsMap P k RE b (Maps.size D) D) : YieldsIf P ops S op (.int .i64 (Maps.size D)) a :=
  .inl ⟨hw, fun w h => by
    have hrun := (hS w h).len ht op.type
    unfold execOp
    simp [hop, resolve, invoke, builtin, hm, hrun, Result.andThen]⟩

/-- How an asking comes to its end. -/
def AskPost (K0 : List Nat) (tsb mb : Nat) (c : Gz.Tc) (l : List Nat) (w : World) (e : Ending) (w' : World) : Prop :=
  ∃ tb s1 s2 K', e = .returned (.pointer (some ⟨tb, 0, none⟩)) ∧ TableAt w' K' tb s1 s2 (Gz.makeTable l) ∧ TabsAt w' K' tsb mb (c.ask l) ∧ Grow K0 K' w w' ∧ Fr (Duo tsb mb) w w'

set_option maxRecDepth 100000 in
set_option maxHeartbeats 3200000 in
theorem ask_any (K0 : List Nat) (tsb mb : Nat) (c : Gz.Tc) (l : List Nat) (w : World) (hT : TabsAt w K0 tsb mb c) (hl : KeyOk l) (ha : c.asked < 2 ^ 62) (hK : ∀ k ∈ K0, k < w.heap.size) (h1 : tsb ∉ K0) (h2 : mb ∉ K0) :
    Calls Tryz.prog 117 #[.pointer (some ⟨tsb, 0, none⟩), .agg (uvs l)] w (AskPost K0 tsb mb c l w) := by
  obtain ⟨D, hD, hH⟩ := hT.map
  have hok := hT.ok
  have hb := hT.blk
  have hne := hT.ne2
  have htl := hT.lt
  have hml := hT.ltm
  have hkey := keyOk_of hl
  have hmade := hok.made
  have hls : (uvs l).size = 320 := by rw [uvs_size]; exact hl.1
  obtain ⟨lb, hlb⟩ : ∃ lb, lb = w.heap.size := ⟨_, rfl⟩
  obtain ⟨w1, hw1⟩ : ∃ w1, w1 = w.alloc (.cells (uvs l) 105) := ⟨_, rfl⟩
  have hf1 : Fr No w w1 := by rw [hw1]; exact (Fr.refl _ _).alloc _
  have hz1 : w1.heap[lb]? = some (.cells (uvs l) 105 (0, 0)) := by rw [hw1, hlb]; exact alloc_at w _
  have hs1 : w1.heap.size = lb + 1 := by rw [hw1, hlb]; simp
  have hb1 := hb.fr hf1 (no_no _)
  have k12 := hb1.c2
  have f12 := hb1.fz 2
  obtain ⟨w2, hw2⟩ : ∃ w2, w2 = w1.setCell ⟨tsb, 2, none⟩ (.int .i64 ((c.asked : Int) + 1)) := ⟨_, rfl⟩
  have hb2 : Tb w2 tsb c.most c.made (c.asked + 1) mb := by rw [hw2]; exact hb1.s2 _ (c.asked + 1) (by omega)
  have hf12 : Fr (One tsb) w1 w2 := by rw [hw2]; exact (Fr.refl _ _).setCell (fun _ => one_self tsb) _
  have hf2 : Fr (Duo tsb mb) w w2 := (hf1.of_no (T := Duo tsb mb)).trans hf12.toDuo
  have hz2 : w2.heap[lb]? = some (.cells (uvs l) 105 (0, 0)) := hf12.at hz1 (one_ne (by omega))
  have hD2 : OwnsK w2 mb D := ownsMap_fr (ownsMap_fr hD hf1 (no_no _)) hf12 (one_ne hne)
  have hs2 : w2.heap.size = lb + 1 := by rw [hw2]; simp [World.setCell]; exact hs1
  have hKS : ∀ k ∈ K0, ¬ Duo tsb mb k := fun k hk e => e.elim (fun e => h1 (e ▸ hk)) (fun e => h2 (e ▸ hk))
  have hH2 : Holds (TabIn w2 K0) D c.kept := hH.mono (fun tb x ⟨s1, s2, ht⟩ => ⟨s1, s2, ht.frS hf2 hKS⟩)
  have k23 := hb2.c3
  obtain ⟨y, hy⟩ : ∃ y, D.atKey (keyLit l) (.held (none, 0)) = .held y := by
    cases hh : Maps.has D (keyLit l) with
    | false => exact ⟨(none, 0), atKey_of_not_has hh _⟩
    | true =>
      obtain ⟨x, hx, e⟩ := hH.only _ hh
      obtain ⟨tb, h3, _⟩ := hH.held x hx
      exact ⟨_, by rw [e]; exact h3 _⟩
  have hhit : Maps.has D (keyLit l) = c.hit l := hH.hit keyOk_inj (fun x hx => hok.keys x hx) hl
  obtain ⟨ob, hob⟩ : ∃ ob, ob = lb + 1 := ⟨_, rfl⟩
  have hms : Maps.size D ≤ 16 := by rw [hH.size]; exact Nat.le_trans hok.len hok.most
  have HK := hide hK
  have HW1 := hide hw1
  have HW2 := hide hw2
  have HB2 := hide hb2
  have HH2 := hide hH2
  have HF2 := hide hf2
  have HZ2 := hide hz2
  have HLB := hide hlb
  have HOB := hide hob
  have HS2 := hide hs2
  have HH := hide hH
  have HHIT := hide hhit
  have HD2 := hide hD2
  have HKS := hide hKS
  clear hK hw1 hw2 hb2 hH2 hf2 hz2 hlb hob hs2 hH hhit hD2 hKS hz1 hs1 hb1 hf12 hf1 hb hD hT
  go_enter Tryz.func117, Tryz.ntmps117
  go_upto_region 1 with fail
  change Code.wp _ _ _ _ (w.alloc (.cells (uvs l) 105))
  rw [← HLB.out, ← HW1.out]
  go_upto_region 2 with fail
  rw [← HW2.out]
  refine wp_region_held (S := fun W => W.heap[lb]? = some (.cells (uvs l) 105 (0, 0)) ∧ W.cell? ⟨tsb, 3, none⟩ = some (.map (some mb)) ∧ OwnsK W mb D) (by kernel_rfl) ?_
  change wpAnyH _ _ _ _ _ _ _ _ (World.drew _)
  have hS0 : (World.drew w2).heap[lb]? = some (.cells (uvs l) 105 (0, 0)) ∧ (World.drew w2).cell? ⟨tsb, 3, none⟩ = some (.map (some mb)) ∧ OwnsK (World.drew w2) mb D := ⟨HZ2.out, k23, HD2.out⟩
  refine wpAnyH_take (i := 0) (v := ?_) rfl (by kernel_rfl) (by kernel_rfl) (by kernel_rfl) (fun _ _ _ h => h) (Or.inl ⟨by rfl, by intro w _; go_simp; with_reducible rfl⟩) hS0 ?_
  refine wpAnyH_take (i := 1) (v := ?_) rfl (by kernel_rfl) (by kernel_rfl) (by kernel_rfl) (fun _ _ _ h => h) (Or.inl ⟨by rfl, by intro w _; go_simp; with_reducible rfl⟩) hS0 ?_
  refine wpAnyH_take (i := 2) (v := ?_) rfl (by kernel_rfl) (by kernel_rfl) (by kernel_rfl) (fun _ _ _ h => h) (Or.inl ⟨by rfl, by intro w _; go_simp; with_reducible rfl⟩) hS0 ?_
  refine wpAnyH_take (i := 3) (v := .map (some mb)) rfl (by kernel_rfl) (by kernel_rfl) (by kernel_rfl) (fun _ _ _ h => h) (Or.inl ⟨by rfl, by intro w h; have h := h.2.1; go_simp⟩) hS0 ?_
  refine wpAnyH_take (i := 4) (v := .agg (uvs l)) rfl (by kernel_rfl) (by kernel_rfl) (by kernel_rfl) (fun _ _ _ h => h) (yields_row rfl 105 (.tmp 3) rfl lb rfl 105 (uvs l) (0, 0) _ (fun _ h => h.1) Tryz.underlying105 rfl (by rw [hls]; kernel_rfl)) hS0 ?_
  refine wpAnyH_take (i := 5) (v := .tuple #[mkE y, .bool (Maps.has D (keyLit l))]) rfl (by kernel_rfl) (by kernel_rfl) (by kernel_rfl) (fun _ _ _ h => h) (yields_look rfl 83 (.tmp 18) (.tmp 19) rfl 105 232 lawK underMap zeroKept mb D rfl (fun _ h => h.2.2) (.agg (uvs l)) (keyLit l) rfl hkey y hy) hS0 ?_
  refine wpAnyH_take (i := 6) (v := ?_) rfl (by kernel_rfl) (by kernel_rfl) (by kernel_rfl) (fun _ _ _ h => h) (Or.inl ⟨by rfl, by intro w _; go_simp; with_reducible rfl⟩) hS0 ?_
  refine wpAnyH_take (i := 7) (v := ?_) rfl (by kernel_rfl) (by kernel_rfl) (by kernel_rfl) (fun _ _ _ h => h) (Or.inl ⟨by rfl, by intro w _; go_simp; with_reducible rfl⟩) hS0 ?_
  refine wpAnyH_take (i := 8) (v := ?_) rfl (by kernel_rfl) (by kernel_rfl) (by kernel_rfl) (fun _ _ _ h => h) (Or.inl ⟨by rfl, by intro w _; go_simp; with_reducible rfl⟩) hS0 ?_
  refine wpAnyH_one (i := 9) (by kernel_rfl) rfl rfl (fun K' hK' => ?_)
  go_simp
  obtain ⟨w3, hw3⟩ : ∃ w3, w3 = (w2.alloc (.cells #[.pointer none, .int .i64 0] 232)).drew := ⟨_, rfl⟩
  have hf3 : Fr No w2 w3 := by rw [hw3]; exact ((Fr.refl No w2).alloc _).drew
  have hob3 : w3.heap[ob]? = some (.cells #[.pointer none, .int .i64 0] 232 (0, 0)) := by rw [hw3, HOB.out, ← HS2.out]; exact alloc_at w2 _
  rw [← hw3]
  have hS3 : w3.heap[lb]? = some (.cells (uvs l) 105 (0, 0)) ∧ w3.cell? ⟨tsb, 3, none⟩ = some (.map (some mb)) ∧ OwnsK w3 mb D := ⟨hf3.at HZ2.out (no_no _), (HB2.out.fr hf3 (no_no _)).c3, ownsMap_fr HD2.out hf3 (no_no _)⟩
  refine hK' _ _ hS3 ?_
  clear hK' K'
  refine wpAnyH_one (i := 10) (by kernel_rfl) rfl rfl (fun K' hK' => ?_)
  refine wp_store_row 232 (.tmp 5) (.tmp 21) rfl ob #[.pointer y.1, .int .i64 y.2] (by rw [HOB.out, ← HS2.out]; rfl) rfl 232 #[.pointer none, .int .i64 0] hob3 (by kernel_rfl) rfl (by simp [Value.oneCell']) ?_
  obtain ⟨w4, hw4⟩ : ∃ w4, w4 = w3.setRow ob #[.pointer y.1, .int .i64 y.2] := ⟨_, rfl⟩
  have hobl : w2.heap.size ≤ ob := by rw [HOB.out, HS2.out]; exact Nat.le_refl _
  have hf4 : Fr No w2 w4 := by rw [hw4]; exact hf3.setRow hobl
  have hob4 : w4.heap[ob]? = some (.cells #[.pointer y.1, .int .i64 y.2] 232 (0, 0)) := by rw [hw4]; exact setRow_heap _ _ _ _ _ _ hob3
  rw [← hw4]
  have hb4 := HB2.out.fr hf4 (no_no _)
  have hS4 : w4.heap[lb]? = some (.cells (uvs l) 105 (0, 0)) ∧ w4.cell? ⟨tsb, 3, none⟩ = some (.map (some mb)) ∧ OwnsK w4 mb D := ⟨hf4.at HZ2.out (no_no _), hb4.c3, ownsMap_fr HD2.out hf4 (no_no _)⟩
  refine hK' _ _ hS4 ?_
  clear hK' K'
  refine wpAnyH_take (i := 11) (v := ?_) rfl (by kernel_rfl) (by kernel_rfl) (by kernel_rfl) (fun _ _ _ h => h) (Or.inl ⟨by rfl, by intro w _; go_simp; with_reducible rfl⟩) hS4 ?_
  refine wpAnyH_done (by kernel_rfl) ?_ _
  simp only [List.getElem_toArray, List.getElem_cons_succ, List.getElem_cons_zero]
  go_frame
  rw [HHIT.out]
  have hfw4 : Fr (Duo tsb mb) w w4 := HF2.out.trans (hf4.of_no (T := Duo tsb mb))
  have HB4 := hide hb4
  have HOB4 := hide hob4
  have HF4 := hide hf4
  have HFW4 := hide hfw4
  have HZ4 := hide hS4.1
  have HD4 := hide hS4.2.2
  have k42 := hb4.c2
  have k41 := hb4.c1
  have f41 := hb4.fz 1
  clear hb4 hob4 hf4 hfw4 hS4 hw4 hS3 hob3 hf3 hw3 hS0
  have hwo : w2.heap.size = ob := by rw [HOB.out, HS2.out]
  rw [hwo]
  have hobt : ob ≠ tsb := by have := HLB.out; have := HOB.out; omega
  have hobl : w.heap.size ≤ ob := by have := HLB.out; have := HOB.out; omega
  have hobb : ob ≠ mb := by omega
  have hw4s : ob < w4.heap.size := lt_of HOB4.out
  cases hh : c.hit l with
  | true =>
    obtain ⟨x, hx, hxl⟩ := List.any_eq_true.1 hh
    have hxl : x.1 = l := by simpa using hxl
    obtain ⟨tb, h3, s1, s2, ht⟩ := HH2.out.held x hx
    have hyy : y = (some ⟨tb, 0, none⟩, (x.2 : Int)) := by
      have := h3 (.held (none, 0))
      rw [hxl, hy] at this
      injection this
    subst hyy
    have ko1 : w4.cell? ⟨ob, 1, none⟩ = some (.int .i64 x.2) := by rw [cell_of HOB4.out]; rfl
    have fo1 : w4.frozen? ⟨ob, 1, none⟩ = false := frozen_of HOB4.out 1
    obtain ⟨wx, hwx⟩ : ∃ wx, wx = w4.setCell ⟨ob, 1, none⟩ (.int .i64 ((c.asked : Int) + 1)) := ⟨_, rfl⟩
    have hfx : Fr (One ob) w4 wx := by rw [hwx]; exact (Fr.refl _ _).setCell (fun _ => one_self ob) _
    have hfwx : Fr (Duo tsb mb) w wx := by rw [hwx]; exact HFW4.out.setCell (fun h => absurd h (by simpa using hobl)) _
    obtain ⟨K', hK'⟩ : ∃ K', K' = K0 := ⟨_, rfl⟩
    have hKx : ∀ k ∈ K0, ¬ One ob k := fun k hk e => by have e' : k = ob := e; have := HK.out k hk; omega
    have HM : Hid (Mid w wx K0 K' tsb mb lb ob tb c l D) := {
      blk := by rw [hh]; exact HB4.out.fr hfx (one_ne (fun e => hobt e.symm))
      own := ownsMap_fr HD4.out hfx (one_ne (fun e => hobb e.symm))
      holds := by rw [hK']; exact HH2.out.mono (fun tb x ⟨s1, s2, ht⟩ => ⟨s1, s2, (ht.frS HF4.out (fun _ _ => no_no _)).frS hfx hKx⟩)
      tab := by rw [hK', ← hxl]; exact ⟨s1, s2, (ht.frS HF4.out (fun _ _ => no_no _)).frS hfx hKx⟩
      len := hfx.at HZ4.out (one_ne (by have := HOB.out; omega))
      one := by rw [hwx, set_of HOB4.out]; rfl
      grow := by rw [hK']; exact Grow.refl _ _ _
      fr := hfwx }
    have HWX := hide hwx
    clear hwx hfx hfwx hK' hKx ht h3
    go_upto_region 7 with fail
    rw [← HWX.out]
    refine wp_region_held (S := fun W => W.heap[lb]? = some (.cells (uvs l) 105 (0, 0)) ∧ W.cell? ⟨tsb, 3, none⟩ = some (.map (some mb)) ∧ W.heap[ob]? = some (.cells #[.pointer (some ⟨tb, 0, none⟩), .int .i64 ((c.asked + 1 : Nat) : Int)] 232 (0, 0))) (by kernel_rfl) ?_
    change wpAnyH _ _ _ _ _ _ _ _ (World.drew _)
    have hSx : (World.drew wx).heap[lb]? = some (.cells (uvs l) 105 (0, 0)) ∧ (World.drew wx).cell? ⟨tsb, 3, none⟩ = some (.map (some mb)) ∧ (World.drew wx).heap[ob]? = some (.cells #[.pointer (some ⟨tb, 0, none⟩), .int .i64 ((c.asked + 1 : Nat) : Int)] 232 (0, 0)) := ⟨HM.out.len, HM.out.blk.c3, HM.out.one⟩
    refine wpAnyH_take (i := 0) (v := ?_) rfl (by kernel_rfl) (by kernel_rfl) (by kernel_rfl) (fun _ _ _ h => h) (Or.inl ⟨by rfl, by intro w _; go_simp; with_reducible rfl⟩) hSx ?_
    refine wpAnyH_take (i := 1) (v := ?_) rfl (by kernel_rfl) (by kernel_rfl) (by kernel_rfl) (fun _ _ _ h => h) (Or.inl ⟨by rfl, by intro w _; go_simp; with_reducible rfl⟩) hSx ?_
    refine wpAnyH_take (i := 2) (v := ?_) rfl (by kernel_rfl) (by kernel_rfl) (by kernel_rfl) (fun _ _ _ h => h) (Or.inl ⟨by rfl, by intro w _; go_simp; with_reducible rfl⟩) hSx ?_
    refine wpAnyH_take (i := 3) (v := .map (some mb)) rfl (by kernel_rfl) (by kernel_rfl) (by kernel_rfl) (fun _ _ _ h => h) (Or.inl ⟨by rfl, by intro w h; have h := h.2.1; go_simp⟩) hSx ?_
    refine wpAnyH_take (i := 4) (v := .agg (uvs l)) rfl (by kernel_rfl) (by kernel_rfl) (by kernel_rfl) (fun _ _ _ h => h) (yields_row rfl 105 (.tmp 3) rfl lb rfl 105 (uvs l) (0, 0) _ (fun _ h => h.1) Tryz.underlying105 rfl (by rw [hls]; kernel_rfl)) hSx ?_
    refine wpAnyH_take (i := 5) (v := .agg #[.pointer (some ⟨tb, 0, none⟩), .int .i64 ((c.asked + 1 : Nat) : Int)]) rfl (by kernel_rfl) (by kernel_rfl) (by kernel_rfl) (fun _ _ _ h => h) (yields_row rfl 232 (.tmp 5) rfl ob rfl 232 _ (0, 0) _ (fun _ h => h.2.2) Tryz.underlying232 rfl (by kernel_rfl)) hSx ?_
    refine wpAnyH_one (i := 6) (by kernel_rfl) rfl rfl (fun K'' hK' => ?_)
    have hownx : (World.drew wx).ownsMap Tryz.prog 105 RE mb (Maps.size D) D := HM.out.own
    have hval : RE (.agg #[.pointer (some ⟨tb, 0, none⟩), .int .i64 ((c.asked + 1 : Nat) : Int)]) = some (.held (some ⟨tb, 0, none⟩, ((c.asked + 1 : Nat) : Int)), []) := rfl
    simp only [List.getElem_toArray, List.getElem_cons_succ, List.getElem_cons_zero]
    go_frame
    refine wp_update (w := World.drew wx) (.tmp 43) (.tmp 44) (.tmp 45) 83 rfl 105 232 lawK underMap RE mb (Maps.size D) D rfl hownx (by unfold maxLen; omega) (.agg (uvs l)) (.agg #[.pointer (some ⟨tb, 0, none⟩), .int .i64 ((c.asked + 1 : Nat) : Int)]) (keyLit l) rfl rfl hkey (.held (some ⟨tb, 0, none⟩, ((c.asked + 1 : Nat) : Int))) [] hval ?_
    intro w7 hown7 hg7
    clear hownx hval
    have hf7 : Fr (One mb) wx w7 := (Fr.refl (One mb) wx).drew.trans (grown_fr hg7)
    have hlbm : lb ≠ mb := by have := HLB.out; omega
    have hobm : ob ≠ mb := by have := HLB.out; have := HOB.out; omega
    have hb7 := HM.out.blk.fr hf7 (one_ne (fun e => hne e.symm))
    have ho7 := hf7.at HM.out.one (one_ne hobm)
    refine hK' _ _ ⟨hf7.at HM.out.len (one_ne hlbm), hb7.c3, ho7⟩ ?_
    clear hK' K''
    refine wpAnyH_done (by kernel_rfl) ?_ _
    have hKm : ∀ k ∈ K', ¬ One mb k := fun k hk e => by
      have e' : k = mb := e
      rcases HM.out.grow.2 k hk with h | h
      · exact h2 (e' ▸ h)
      · omega
    have hH7 : Holds (TabIn w7 K') (D.put (keyLit l) (.held (some ⟨tb, 0, none⟩, ((c.asked + 1 : Nat) : Int)))) (c.turn l) := by
      refine Holds.put (Holds.mono HM.out.holds (fun tb x ⟨s1, s2, ht⟩ => ⟨s1, s2, ht.frS hf7 hKm⟩)) (HM.out.own.tidy lawK) keyOk_inj (fun x hx => hok.keys x hx) hok.apart hl ?_ (c.asked + 1)
      obtain ⟨s1, s2, ht⟩ := HM.out.tab
      exact ⟨s1, s2, ht.frS hf7 hKm⟩
    have hT7 : TabIn w7 K' tb l := by
      obtain ⟨s1, s2, ht⟩ := HM.out.tab
      exact ⟨s1, s2, ht.frS hf7 hKm⟩
    have hO7 := tight hown7
    generalize D.put (keyLit l) (.held (some ⟨tb, 0, none⟩, ((c.asked + 1 : Nat) : Int))) = D7 at hH7 hO7 hown7
    have hsz7 : Maps.size D7 = (c.turn l).length := hH7.size
    have hfw7 : Fr (Duo tsb mb) w w7 := HM.out.fr.trans hf7.toDuo2
    have hgr7 : Grow K0 K' w w7 := ⟨HM.out.grow.1, fun k hk => (HM.out.grow.2 k hk).imp id (fun h => ⟨h.1, Nat.lt_of_lt_of_le h.2 hf7.size⟩)⟩
    have HB7 := hide hb7
    have HH7 := hide hH7
    have HT7 := hide hT7
    have HO7 := hide hO7
    have HFW7 := hide hfw7
    have HGR7 := hide hgr7
    have HOB7 := hide ho7
    have k73 := hb7.c3
    have k70 := hb7.c0
    have ko7 : w7.cell? ⟨ob, 0, none⟩ = some (.pointer (some ⟨tb, 0, none⟩)) := by rw [cell_of ho7]; rfl
    clear hb7 hH7 hT7 hO7 hfw7 hgr7 hown7 hg7 hf7 ho7 hKm hSx
    simp only []
    go_frame
    go_upto_region 8 with fail
    refine wp_region_held (S := fun W => W.cell? ⟨tsb, 0, none⟩ = some (.int .i64 c.most) ∧ W.cell? ⟨tsb, 3, none⟩ = some (.map (some mb)) ∧ OwnsK W mb D7) (by kernel_rfl) ?_
    change wpAnyH _ _ _ _ _ _ _ _ (World.drew _)
    have hS7 : (World.drew w7).cell? ⟨tsb, 0, none⟩ = some (.int .i64 c.most) ∧ (World.drew w7).cell? ⟨tsb, 3, none⟩ = some (.map (some mb)) ∧ OwnsK (World.drew w7) mb D7 := ⟨k70, k73, HO7.out⟩
    refine wpAnyH_take (i := 0) (v := ?_) rfl (by kernel_rfl) (by kernel_rfl) (by kernel_rfl) (fun _ _ _ h => h) (Or.inl ⟨by rfl, by intro w _; go_simp; with_reducible rfl⟩) hS7 ?_
    refine wpAnyH_take (i := 1) (v := ?_) rfl (by kernel_rfl) (by kernel_rfl) (by kernel_rfl) (fun _ _ _ h => h) (Or.inl ⟨by rfl, by intro w _; go_simp; with_reducible rfl⟩) hS7 ?_
    refine wpAnyH_take (i := 2) (v := ?_) rfl (by kernel_rfl) (by kernel_rfl) (by kernel_rfl) (fun _ _ _ h => h) (Or.inl ⟨by rfl, by intro w _; go_simp; with_reducible rfl⟩) hS7 ?_
    refine wpAnyH_take (i := 3) (v := .map (some mb)) rfl (by kernel_rfl) (by kernel_rfl) (by kernel_rfl) (fun _ _ _ h => h) (Or.inl ⟨by rfl, by intro w h; have h := h.2.1; go_simp⟩) hS7 ?_
    refine wpAnyH_take (i := 4) (v := .int .i64 (Maps.size D7)) rfl (by kernel_rfl) (by kernel_rfl) (by kernel_rfl) (fun _ _ _ h => h) (yields_len rfl (.tmp 49) 83 rfl 105 232 underMap mb D7 rfl (fun _ h => h.2.2)) hS7 ?_
    refine wpAnyH_take (i := 5) (v := ?_) rfl (by kernel_rfl) (by kernel_rfl) (by kernel_rfl) (fun _ _ _ h => h) (Or.inl ⟨by rfl, by intro w _; go_simp; with_reducible rfl⟩) hS7 ?_
    refine wpAnyH_take (i := 6) (v := ?_) rfl (by kernel_rfl) (by kernel_rfl) (by kernel_rfl) (fun _ _ _ h => h) (Or.inl ⟨by rfl, by intro w _; go_simp; with_reducible rfl⟩) hS7 ?_
    refine wpAnyH_take (i := 7) (v := ?_) rfl (by kernel_rfl) (by kernel_rfl) (by kernel_rfl) (fun _ _ _ h => h) (Or.inl ⟨by rfl, by intro w _; go_simp; with_reducible rfl⟩) hS7 ?_
    refine wpAnyH_take (i := 8) (v := .int .i64 c.most) rfl (by kernel_rfl) (by kernel_rfl) (by kernel_rfl) (fun _ _ _ h => h) (Or.inl ⟨by rfl, by intro w h; have h := h.1; go_simp⟩) hS7 ?_
    refine wpAnyH_take (i := 9) (v := ?_) rfl (by kernel_rfl) (by kernel_rfl) (by kernel_rfl) (fun _ _ _ h => h) (Or.inl ⟨by rfl, by intro w _; go_simp; with_reducible rfl⟩) hS7 ?_
    refine wpAnyH_done (by kernel_rfl) ?_ _
    simp only [List.getElem_toArray, List.getElem_cons_succ, List.getElem_cons_zero]
    go_frame
    clear hS7
    have hdr : ∀ tb l, TabIn w7 K' tb l → TabIn (World.drew w7) K' tb l := fun _ _ ⟨s1, s2, ht⟩ => ⟨s1, s2, ht.frS ((Fr.refl No w7).drew) (fun _ _ => no_no _)⟩
    by_cases hover : c.most < (c.turn l).length
    · have hd : decide ((c.most : Int) < ((Maps.size D7 : Nat) : Int)) = true := by rw [hsz7]; simp; omega
      obtain ⟨x, rest, htn⟩ : ∃ x rest, c.turn l = x :: rest := by
        cases ht : c.turn l with
        | nil => rw [ht] at hover; simp at hover
        | cons x rest => exact ⟨x, rest, rfl⟩
      have hH8 : Holds (TabIn w7 K') D7 (x :: rest) := by have := HH7.out; rw [htn] at this; exact this
      have hk8 : ∀ y ∈ x :: rest, KeyOk y.1 := by have := hok.turn_keys hl.1 hl.2; rw [htn] at this; exact this
      have ha8 : (x :: rest).Pairwise (fun x y => x.1 ≠ y.1) := by have := hok.turn_apart (l := l); rw [htn] at this; exact this
      have hu8 : (x :: rest).Pairwise (fun x y => x.2 < y.2) := by have := hok.turn_up (l := l); rw [htn] at this; exact this
      have ht8 : ∀ y ∈ x :: rest, y.2 ≤ c.asked + 1 := by have := hok.turn_top (l := l); rw [htn] at this; exact this
      have HC := hide (oldest_any K' tsb mb c.most (if c.hit l then c.made else c.made + 1) (c.asked + 1) D7 x rest (World.drew w7) HB7.out HO7.out (hH8.mono hdr) hk8 ha8 hu8 ht8 (by omega) hne)
      have HDEL := hide (hH8.del (HO7.out.tidy lawK) keyOk_inj hk8 ha8)
      clear hH8 hk8 ha8 hu8 ht8
      go_wp2_with fail
      refine HC.out.mono ?_
      rintro e w8 ⟨rfl, hO8, hf8⟩
      have hf8 : Fr (One mb) w7 w8 := (Fr.refl (One mb) w7).drew.trans hf8
      have hb8 := HB7.out.fr hf8 (one_ne (fun e => hne e.symm))
      have ko8 : w8.cell? ⟨ob, 0, none⟩ = some (.pointer (some ⟨tb, 0, none⟩)) := by rw [cell_of (hf8.at HOB7.out (one_ne hobm))]; rfl
      have hKm : ∀ k ∈ K', ¬ One mb k := fun k hk e => by
        have e' : k = mb := e
        rcases HGR7.out.2 k hk with h | h
        · exact h2 (e' ▸ h)
        · omega
      go_wp2
      go_ret
      obtain ⟨s1, s2, ht⟩ := HT7.out
      refine ⟨tb, s1, s2, K', rfl, ht.frS hf8 hKm, ⟨hb8, hok.ask hl.1 hl.2, D7.del (keyLit x.1), hO8, ?_⟩, ⟨HGR7.out.1, fun k hk => (HGR7.out.2 k hk).imp id (fun h => ⟨h.1, Nat.lt_of_lt_of_le h.2 hf8.size⟩)⟩, HFW7.out.trans hf8.toDuo2⟩
      show Holds _ _ (if c.most < (c.turn l).length then (c.turn l).drop 1 else c.turn l)
      rw [if_pos hover, htn]
      exact HDEL.out.mono (fun tb y ⟨s1, s2, ht⟩ => ⟨s1, s2, ht.frS hf8 hKm⟩)
    · have hd : decide ((c.most : Int) < ((Maps.size D7 : Nat) : Int)) = false := by rw [hsz7]; simp; omega
      go_wp2
      go_ret
      obtain ⟨s1, s2, ht⟩ := HT7.out
      refine ⟨tb, s1, s2, K', rfl, ht.frS ((Fr.refl No w7).drew) (fun _ _ => no_no _), ⟨HB7.out, hok.ask hl.1 hl.2, D7, HO7.out, ?_⟩, HGR7.out, HFW7.out.drew⟩
      show Holds _ _ (if c.most < (c.turn l).length then (c.turn l).drop 1 else c.turn l)
      rw [if_neg hover]
      exact HH7.out.mono hdr
  | false =>
    have hyy : y = (none, 0) := by
      have := atKey_of_not_has (HHIT.out.trans hh) (DataW.held (none, 0))
      rw [hy] at this
      injection this
    subst hyy
    go_wp2_with (refine wpList_load_row rfl 105 (.tmp 3) rfl lb rfl 105 (uvs l) (0, 0) _ (by exact HZ4.out) Tryz.underlying105 rfl (by rw [hls]; kernel_rfl) ?_)
    refine (makeTable_any l _ hl.2 hl.1).mono ?_
    rintro e w5 ⟨tb, s1, s2, rfl, ht0, ht1, ht2, ht3, ht4, ht5, hTab, hf5⟩
    have hob5 := hf5.at HOB4.out (no_no _)
    have ko0 : w5.cell? ⟨ob, 0, none⟩ = some (.pointer none) := by rw [cell_of hob5]; rfl
    have fo0 : w5.frozen? ⟨ob, 0, none⟩ = false := frozen_of hob5 0
    obtain ⟨w6, hw6⟩ : ∃ w6, w6 = w5.setCell ⟨ob, 0, none⟩ (.pointer (some ⟨tb, 0, none⟩)) := ⟨_, rfl⟩
    have hob6 : w6.heap[ob]? = some (.cells #[.pointer (some ⟨tb, 0, none⟩), .int .i64 0] 232 (0, 0)) := by rw [hw6, set_of hob5]; rfl
    have hf6 : Fr (One ob) w5 w6 := by rw [hw6]; exact (Fr.refl _ _).setCell (fun _ => one_self ob) _
    have hb6 := (HB4.out.fr hf5 (no_no _)).fr hf6 (one_ne (fun e => hobt e.symm))
    have k61 := hb6.c1
    have f61 := hb6.fz 1
    obtain ⟨w8, hw8⟩ : ∃ w8, w8 = w6.setCell ⟨tsb, 1, none⟩ (.int .i64 ((c.made : Int) + 1)) := ⟨_, rfl⟩
    have hb8 : Tb w8 tsb c.most (c.made + 1) (c.asked + 1) mb := by rw [hw8]; exact hb6.s1 _ (c.made + 1) (by omega)
    have hf8 : Fr (One tsb) w6 w8 := by rw [hw8]; exact (Fr.refl _ _).setCell (fun _ => one_self tsb) _
    have hob8 := hf8.at hob6 (one_ne hobt)
    have k82 := hb8.c2
    have ko1 : w8.cell? ⟨ob, 1, none⟩ = some (.int .i64 0) := by rw [cell_of hob8]; rfl
    have fo1 : w8.frozen? ⟨ob, 1, none⟩ = false := frozen_of hob8 1
    obtain ⟨wx, hwx⟩ : ∃ wx, wx = w8.setCell ⟨ob, 1, none⟩ (.int .i64 ((c.asked : Int) + 1)) := ⟨_, rfl⟩
    have hfx : Fr (One ob) w8 wx := by rw [hwx]; exact (Fr.refl _ _).setCell (fun _ => one_self ob) _
    have hsw4 := HF4.out.size
    have hsw := HFW4.out.size
    have hs5 := hf5.size
    have hfwx : Fr (Duo tsb mb) w wx := by
      rw [hwx]
      refine Fr.setCell ?_ (fun h => absurd h (by simpa using hobl)) _
      refine Fr.trans ?_ hf8.toDuo
      rw [hw6]
      exact (HFW4.out.trans (hf5.of_no (T := Duo tsb mb))).setCell (fun h => absurd h (by simpa using hobl)) _
    obtain ⟨K', hK'⟩ : ∃ K', K' = [tb, s1, s2] ++ K0 := ⟨_, rfl⟩
    have hK1 : ∀ k ∈ K0, k < w.heap.size := HK.out
    have hk3 : ∀ k ∈ [tb, s1, s2], w4.heap.size ≤ k := fun k hk => by
      simp only [List.mem_cons, List.not_mem_nil, or_false] at hk
      rcases hk with rfl | rfl | rfl <;> assumption
    have hKb : ∀ k ∈ K', k ≠ ob ∧ k ≠ tsb := fun k hk => by
      rw [hK'] at hk
      rcases List.mem_append.1 hk with hk | hk
      · have := hk3 k hk; omega
      · have := hK1 k hk; exact ⟨by omega, fun e => h1 (e ▸ hk)⟩
    have hTx : ∀ {tb' : Nat} {l' : List Nat}, TabIn w5 K' tb' l' → TabIn wx K' tb' l' := fun ⟨s1, s2, ht⟩ => ⟨s1, s2, ((ht.frS hf6 (fun k hk => one_ne (hKb k hk).1)).frS hf8 (fun k hk => one_ne (hKb k hk).2)).frS hfx (fun k hk => one_ne (hKb k hk).1)⟩
    have HM : Hid (Mid w wx K0 K' tsb mb lb ob tb c l D) := {
      blk := by rw [hh]; exact hb8.fr hfx (one_ne (fun e => hobt e.symm))
      own := ownsMap_fr (ownsMap_fr (ownsMap_fr (ownsMap_fr HD4.out hf5 (no_no _)) hf6 (one_ne (fun e => hobb e.symm))) hf8 (one_ne hne)) hfx (one_ne (fun e => hobb e.symm))
      holds := HH2.out.mono (fun tb x ⟨s1', s2', ht⟩ => hTx ⟨s1', s2', ((ht.frS HF4.out (fun _ _ => no_no _)).frS hf5 (fun _ _ => no_no _)).sub (fun k hk => by rw [hK']; exact List.mem_append_right _ hk)⟩)
      tab := hTx ⟨s1, s2, hTab.sub (fun k hk => by rw [hK']; exact List.mem_append_left _ hk)⟩
      len := hfx.at (hf8.at (hf6.at (hf5.at HZ4.out (no_no _)) (one_ne (by have := HOB.out; omega))) (one_ne (by have := HLB.out; omega))) (one_ne (by have := HOB.out; omega))
      one := by rw [hwx, set_of hob8]; rfl
      grow := by
        rw [hK']
        refine ⟨fun k hk => List.mem_append_right _ hk, fun k hk => ?_⟩
        have hsx := hfx.size
        have hs8 := hf8.size
        have hs6 := hf6.size
        rcases List.mem_append.1 hk with hk | hk
        · refine Or.inr ?_
          simp only [List.mem_cons, List.not_mem_nil, or_false] at hk
          rcases hk with rfl | rfl | rfl <;> omega
        · exact Or.inl hk
      fr := hfwx }
    have HWX := hide hwx
    have HW6 := hide hw6
    have HW8 := hide hw8
    clear hwx hw6 hw8 hfx hfwx hK' hTx hKb hk3 hK1 hf8 hf6 hb6 hb8 hob8 hob6 hob5 hTab hf5
    go_upto_region 5 with fail
    rw [← HW6.out]
    go_upto_region 6 with fail
    rw [← HW8.out]
    go_upto_region 7 with fail
    rw [← HWX.out]
    refine wp_region_held (S := fun W => W.heap[lb]? = some (.cells (uvs l) 105 (0, 0)) ∧ W.cell? ⟨tsb, 3, none⟩ = some (.map (some mb)) ∧ W.heap[ob]? = some (.cells #[.pointer (some ⟨tb, 0, none⟩), .int .i64 ((c.asked + 1 : Nat) : Int)] 232 (0, 0))) (by kernel_rfl) ?_
    change wpAnyH _ _ _ _ _ _ _ _ (World.drew _)
    have hSx : (World.drew wx).heap[lb]? = some (.cells (uvs l) 105 (0, 0)) ∧ (World.drew wx).cell? ⟨tsb, 3, none⟩ = some (.map (some mb)) ∧ (World.drew wx).heap[ob]? = some (.cells #[.pointer (some ⟨tb, 0, none⟩), .int .i64 ((c.asked + 1 : Nat) : Int)] 232 (0, 0)) := ⟨HM.out.len, HM.out.blk.c3, HM.out.one⟩
    refine wpAnyH_take (i := 0) (v := ?_) rfl (by kernel_rfl) (by kernel_rfl) (by kernel_rfl) (fun _ _ _ h => h) (Or.inl ⟨by rfl, by intro w _; go_simp; with_reducible rfl⟩) hSx ?_
    refine wpAnyH_take (i := 1) (v := ?_) rfl (by kernel_rfl) (by kernel_rfl) (by kernel_rfl) (fun _ _ _ h => h) (Or.inl ⟨by rfl, by intro w _; go_simp; with_reducible rfl⟩) hSx ?_
    refine wpAnyH_take (i := 2) (v := ?_) rfl (by kernel_rfl) (by kernel_rfl) (by kernel_rfl) (fun _ _ _ h => h) (Or.inl ⟨by rfl, by intro w _; go_simp; with_reducible rfl⟩) hSx ?_
    refine wpAnyH_take (i := 3) (v := .map (some mb)) rfl (by kernel_rfl) (by kernel_rfl) (by kernel_rfl) (fun _ _ _ h => h) (Or.inl ⟨by rfl, by intro w h; have h := h.2.1; go_simp⟩) hSx ?_
    refine wpAnyH_take (i := 4) (v := .agg (uvs l)) rfl (by kernel_rfl) (by kernel_rfl) (by kernel_rfl) (fun _ _ _ h => h) (yields_row rfl 105 (.tmp 3) rfl lb rfl 105 (uvs l) (0, 0) _ (fun _ h => h.1) Tryz.underlying105 rfl (by rw [hls]; kernel_rfl)) hSx ?_
    refine wpAnyH_take (i := 5) (v := .agg #[.pointer (some ⟨tb, 0, none⟩), .int .i64 ((c.asked + 1 : Nat) : Int)]) rfl (by kernel_rfl) (by kernel_rfl) (by kernel_rfl) (fun _ _ _ h => h) (yields_row rfl 232 (.tmp 5) rfl ob rfl 232 _ (0, 0) _ (fun _ h => h.2.2) Tryz.underlying232 rfl (by kernel_rfl)) hSx ?_
    refine wpAnyH_one (i := 6) (by kernel_rfl) rfl rfl (fun K'' hK' => ?_)
    have hownx : (World.drew wx).ownsMap Tryz.prog 105 RE mb (Maps.size D) D := HM.out.own
    have hval : RE (.agg #[.pointer (some ⟨tb, 0, none⟩), .int .i64 ((c.asked + 1 : Nat) : Int)]) = some (.held (some ⟨tb, 0, none⟩, ((c.asked + 1 : Nat) : Int)), []) := rfl
    simp only [List.getElem_toArray, List.getElem_cons_succ, List.getElem_cons_zero]
    go_frame
    refine wp_update (w := World.drew wx) (.tmp 43) (.tmp 44) (.tmp 45) 83 rfl 105 232 lawK underMap RE mb (Maps.size D) D rfl hownx (by unfold maxLen; omega) (.agg (uvs l)) (.agg #[.pointer (some ⟨tb, 0, none⟩), .int .i64 ((c.asked + 1 : Nat) : Int)]) (keyLit l) rfl rfl hkey (.held (some ⟨tb, 0, none⟩, ((c.asked + 1 : Nat) : Int))) [] hval ?_
    intro w7 hown7 hg7
    clear hownx hval
    have hf7 : Fr (One mb) wx w7 := (Fr.refl (One mb) wx).drew.trans (grown_fr hg7)
    have hlbm : lb ≠ mb := by have := HLB.out; omega
    have hobm : ob ≠ mb := by have := HLB.out; have := HOB.out; omega
    have hb7 := HM.out.blk.fr hf7 (one_ne (fun e => hne e.symm))
    have ho7 := hf7.at HM.out.one (one_ne hobm)
    refine hK' _ _ ⟨hf7.at HM.out.len (one_ne hlbm), hb7.c3, ho7⟩ ?_
    clear hK' K''
    refine wpAnyH_done (by kernel_rfl) ?_ _
    have hKm : ∀ k ∈ K', ¬ One mb k := fun k hk e => by
      have e' : k = mb := e
      rcases HM.out.grow.2 k hk with h | h
      · exact h2 (e' ▸ h)
      · omega
    have hH7 : Holds (TabIn w7 K') (D.put (keyLit l) (.held (some ⟨tb, 0, none⟩, ((c.asked + 1 : Nat) : Int)))) (c.turn l) := by
      refine Holds.put (Holds.mono HM.out.holds (fun tb x ⟨s1, s2, ht⟩ => ⟨s1, s2, ht.frS hf7 hKm⟩)) (HM.out.own.tidy lawK) keyOk_inj (fun x hx => hok.keys x hx) hok.apart hl ?_ (c.asked + 1)
      obtain ⟨s1, s2, ht⟩ := HM.out.tab
      exact ⟨s1, s2, ht.frS hf7 hKm⟩
    have hT7 : TabIn w7 K' tb l := by
      obtain ⟨s1, s2, ht⟩ := HM.out.tab
      exact ⟨s1, s2, ht.frS hf7 hKm⟩
    have hO7 := tight hown7
    generalize D.put (keyLit l) (.held (some ⟨tb, 0, none⟩, ((c.asked + 1 : Nat) : Int))) = D7 at hH7 hO7 hown7
    have hsz7 : Maps.size D7 = (c.turn l).length := hH7.size
    have hfw7 : Fr (Duo tsb mb) w w7 := HM.out.fr.trans hf7.toDuo2
    have hgr7 : Grow K0 K' w w7 := ⟨HM.out.grow.1, fun k hk => (HM.out.grow.2 k hk).imp id (fun h => ⟨h.1, Nat.lt_of_lt_of_le h.2 hf7.size⟩)⟩
    have HB7 := hide hb7
    have HH7 := hide hH7
    have HT7 := hide hT7
    have HO7 := hide hO7
    have HFW7 := hide hfw7
    have HGR7 := hide hgr7
    have HOB7 := hide ho7
    have k73 := hb7.c3
    have k70 := hb7.c0
    have ko7 : w7.cell? ⟨ob, 0, none⟩ = some (.pointer (some ⟨tb, 0, none⟩)) := by rw [cell_of ho7]; rfl
    clear hb7 hH7 hT7 hO7 hfw7 hgr7 hown7 hg7 hf7 ho7 hKm hSx
    simp only []
    go_frame
    go_upto_region 8 with fail
    refine wp_region_held (S := fun W => W.cell? ⟨tsb, 0, none⟩ = some (.int .i64 c.most) ∧ W.cell? ⟨tsb, 3, none⟩ = some (.map (some mb)) ∧ OwnsK W mb D7) (by kernel_rfl) ?_
    change wpAnyH _ _ _ _ _ _ _ _ (World.drew _)
    have hS7 : (World.drew w7).cell? ⟨tsb, 0, none⟩ = some (.int .i64 c.most) ∧ (World.drew w7).cell? ⟨tsb, 3, none⟩ = some (.map (some mb)) ∧ OwnsK (World.drew w7) mb D7 := ⟨k70, k73, HO7.out⟩
    refine wpAnyH_take (i := 0) (v := ?_) rfl (by kernel_rfl) (by kernel_rfl) (by kernel_rfl) (fun _ _ _ h => h) (Or.inl ⟨by rfl, by intro w _; go_simp; with_reducible rfl⟩) hS7 ?_
    refine wpAnyH_take (i := 1) (v := ?_) rfl (by kernel_rfl) (by kernel_rfl) (by kernel_rfl) (fun _ _ _ h => h) (Or.inl ⟨by rfl, by intro w _; go_simp; with_reducible rfl⟩) hS7 ?_
    refine wpAnyH_take (i := 2) (v := ?_) rfl (by kernel_rfl) (by kernel_rfl) (by kernel_rfl) (fun _ _ _ h => h) (Or.inl ⟨by rfl, by intro w _; go_simp; with_reducible rfl⟩) hS7 ?_
    refine wpAnyH_take (i := 3) (v := .map (some mb)) rfl (by kernel_rfl) (by kernel_rfl) (by kernel_rfl) (fun _ _ _ h => h) (Or.inl ⟨by rfl, by intro w h; have h := h.2.1; go_simp⟩) hS7 ?_
    refine wpAnyH_take (i := 4) (v := .int .i64 (Maps.size D7)) rfl (by kernel_rfl) (by kernel_rfl) (by kernel_rfl) (fun _ _ _ h => h) (yields_len rfl (.tmp 49) 83 rfl 105 232 underMap mb D7 rfl (fun _ h => h.2.2)) hS7 ?_
    refine wpAnyH_take (i := 5) (v := ?_) rfl (by kernel_rfl) (by kernel_rfl) (by kernel_rfl) (fun _ _ _ h => h) (Or.inl ⟨by rfl, by intro w _; go_simp; with_reducible rfl⟩) hS7 ?_
    refine wpAnyH_take (i := 6) (v := ?_) rfl (by kernel_rfl) (by kernel_rfl) (by kernel_rfl) (fun _ _ _ h => h) (Or.inl ⟨by rfl, by intro w _; go_simp; with_reducible rfl⟩) hS7 ?_
    refine wpAnyH_take (i := 7) (v := ?_) rfl (by kernel_rfl) (by kernel_rfl) (by kernel_rfl) (fun _ _ _ h => h) (Or.inl ⟨by rfl, by intro w _; go_simp; with_reducible rfl⟩) hS7 ?_
    refine wpAnyH_take (i := 8) (v := .int .i64 c.most) rfl (by kernel_rfl) (by kernel_rfl) (by kernel_rfl) (fun _ _ _ h => h) (Or.inl ⟨by rfl, by intro w h; have h := h.1; go_simp⟩) hS7 ?_
    refine wpAnyH_take (i := 9) (v := ?_) rfl (by kernel_rfl) (by kernel_rfl) (by kernel_rfl) (fun _ _ _ h => h) (Or.inl ⟨by rfl, by intro w _; go_simp; with_reducible rfl⟩) hS7 ?_
    refine wpAnyH_done (by kernel_rfl) ?_ _
    simp only [List.getElem_toArray, List.getElem_cons_succ, List.getElem_cons_zero]
    go_frame
    clear hS7
    have hdr : ∀ tb l, TabIn w7 K' tb l → TabIn (World.drew w7) K' tb l := fun _ _ ⟨s1, s2, ht⟩ => ⟨s1, s2, ht.frS ((Fr.refl No w7).drew) (fun _ _ => no_no _)⟩
    by_cases hover : c.most < (c.turn l).length
    · have hd : decide ((c.most : Int) < ((Maps.size D7 : Nat) : Int)) = true := by rw [hsz7]; simp; omega
      obtain ⟨x, rest, htn⟩ : ∃ x rest, c.turn l = x :: rest := by
        cases ht : c.turn l with
        | nil => rw [ht] at hover; simp at hover
        | cons x rest => exact ⟨x, rest, rfl⟩
      have hH8 : Holds (TabIn w7 K') D7 (x :: rest) := by have := HH7.out; rw [htn] at this; exact this
      have hk8 : ∀ y ∈ x :: rest, KeyOk y.1 := by have := hok.turn_keys hl.1 hl.2; rw [htn] at this; exact this
      have ha8 : (x :: rest).Pairwise (fun x y => x.1 ≠ y.1) := by have := hok.turn_apart (l := l); rw [htn] at this; exact this
      have hu8 : (x :: rest).Pairwise (fun x y => x.2 < y.2) := by have := hok.turn_up (l := l); rw [htn] at this; exact this
      have ht8 : ∀ y ∈ x :: rest, y.2 ≤ c.asked + 1 := by have := hok.turn_top (l := l); rw [htn] at this; exact this
      have HC := hide (oldest_any K' tsb mb c.most (if c.hit l then c.made else c.made + 1) (c.asked + 1) D7 x rest (World.drew w7) HB7.out HO7.out (hH8.mono hdr) hk8 ha8 hu8 ht8 (by omega) hne)
      have HDEL := hide (hH8.del (HO7.out.tidy lawK) keyOk_inj hk8 ha8)
      clear hH8 hk8 ha8 hu8 ht8
      go_wp2_with fail
      refine HC.out.mono ?_
      rintro e w8 ⟨rfl, hO8, hf8⟩
      have hf8 : Fr (One mb) w7 w8 := (Fr.refl (One mb) w7).drew.trans hf8
      have hb8 := HB7.out.fr hf8 (one_ne (fun e => hne e.symm))
      have ko8 : w8.cell? ⟨ob, 0, none⟩ = some (.pointer (some ⟨tb, 0, none⟩)) := by rw [cell_of (hf8.at HOB7.out (one_ne hobm))]; rfl
      have hKm : ∀ k ∈ K', ¬ One mb k := fun k hk e => by
        have e' : k = mb := e
        rcases HGR7.out.2 k hk with h | h
        · exact h2 (e' ▸ h)
        · omega
      go_wp2
      go_ret
      obtain ⟨s1, s2, ht⟩ := HT7.out
      refine ⟨tb, s1, s2, K', rfl, ht.frS hf8 hKm, ⟨hb8, hok.ask hl.1 hl.2, D7.del (keyLit x.1), hO8, ?_⟩, ⟨HGR7.out.1, fun k hk => (HGR7.out.2 k hk).imp id (fun h => ⟨h.1, Nat.lt_of_lt_of_le h.2 hf8.size⟩)⟩, HFW7.out.trans hf8.toDuo2⟩
      show Holds _ _ (if c.most < (c.turn l).length then (c.turn l).drop 1 else c.turn l)
      rw [if_pos hover, htn]
      exact HDEL.out.mono (fun tb y ⟨s1, s2, ht⟩ => ⟨s1, s2, ht.frS hf8 hKm⟩)
    · have hd : decide ((c.most : Int) < ((Maps.size D7 : Nat) : Int)) = false := by rw [hsz7]; simp; omega
      go_wp2
      go_ret
      obtain ⟨s1, s2, ht⟩ := HT7.out
      refine ⟨tb, s1, s2, K', rfl, ht.frS ((Fr.refl No w7).drew) (fun _ _ => no_no _), ⟨HB7.out, hok.ask hl.1 hl.2, D7, HO7.out, ?_⟩, HGR7.out, HFW7.out.drew⟩
      show Holds _ _ (if c.most < (c.turn l).length then (c.turn l).drop 1 else c.turn l)
      rw [if_neg hover]
      exact HH7.out.mono hdr
end Go.Proofs.YtjjjlilflbddoaaGreatDoor
