import Derived.Test.YtjjjlilflbddoaaDoorTell
import Derived.Test.YtjjjlilflbddoaaDoorGKept
import Derived.Deep.RegionWith
import Derived.OrdersHeld
import Derived.Laws.Rows
/-
  The tables that are kept, in memory: Tables.ask.
-/
namespace Go.Proofs.YtjjjlilflbddoaaDoor
open Go.RowKit Go.Maps Go.WideMaps

theorem arrK : ArrKey Tryd.prog 109 5 320 := ⟨Tryd.underlying109, by kernel_rfl, by kernel_rfl, by kernel_rfl⟩
theorem under5 : Tryd.prog.underlying 5 = some (.int .u8) := by kernel_rfl
theorem tysz : ∃ m, Tryd.prog.types.size = m + 1 := by
  obtain ⟨m, hm⟩ : ∃ m, m = Tryd.prog.types.size := ⟨_, rfl⟩
  cases m with
  | zero =>
    have h : (0 : Nat) < Tryd.prog.types.size := of_decide_eq_true (by kernel_rfl)
    omega
  | succ m => exact ⟨m, hm.symm⟩
theorem lawK : Keyed Tryd.prog 109 := Keyed.of_law arrK.law
theorem underMap : Tryd.prog.underlying 90 = some (.map 109 229) := by kernel_rfl
theorem zeroKept (w : World) : (zeroValue 229).run Tryd.prog w = .ok (mkE (none, 0)) w := by kernel_rfl
theorem keyOk_of {l : List Nat} (h : KeyOk l) : keyOf Tryd.prog 109 (.agg (uvs l)) = some (keyLit l) := key_mk arrK under5 tysz h.1 h.byte
theorem keyOk_inj {a b : List Nat} (ha : KeyOk a) (hb : KeyOk b) (h : keyLit a = keyLit b) : a = b := keyLit_inj arrK under5 tysz ha.1 ha.byte hb.1 hb.byte h

/-- 320 zeros. -/
def zeros320 : List Nat := List.replicate 320 0
theorem lens_z (n : Nat) : Lens (List.replicate n 0) := by
  intro i hi; rw [List.getD, List.getElem?_replicate]; split <;> simp
/-- The Tables' block. -/
def Tb (w : World) (tsb : Nat) (most made asked mb : Nat) : Prop := w.heap[tsb]? = some (.cells #[.int .i64 most, .int .i64 made, .int .i64 asked, .map (some mb)] 92 (0, 0))
section
variable {w : World} {tsb most made asked mb : Nat}
theorem Tb.c0 (h : Tb w tsb most made asked mb) : w.cell? ⟨tsb, 0, none⟩ = some (.int .i64 most) := by rw [cell_of h]; rfl
theorem Tb.c1 (h : Tb w tsb most made asked mb) : w.cell? ⟨tsb, 1, none⟩ = some (.int .i64 made) := by rw [cell_of h]; rfl
theorem Tb.c2 (h : Tb w tsb most made asked mb) : w.cell? ⟨tsb, 2, none⟩ = some (.int .i64 asked) := by rw [cell_of h]; rfl
theorem Tb.c3 (h : Tb w tsb most made asked mb) : w.cell? ⟨tsb, 3, none⟩ = some (.map (some mb)) := by rw [cell_of h]; rfl
theorem Tb.fz (h : Tb w tsb most made asked mb) (i : Nat) : w.frozen? ⟨tsb, i, none⟩ = false := frozen_of h i
theorem Tb.s1 (h : Tb w tsb most made asked mb) (z : Int) (n : Nat) (e : z = n) : Tb (w.setCell ⟨tsb, 1, none⟩ (.int .i64 z)) tsb most n asked mb := by subst e; unfold Tb; rw [set_of h]; rfl
theorem Tb.s2 (h : Tb w tsb most made asked mb) (z : Int) (n : Nat) (e : z = n) : Tb (w.setCell ⟨tsb, 2, none⟩ (.int .i64 z)) tsb most made n mb := by subst e; unfold Tb; rw [set_of h]; rfl
theorem Tb.fr {S : Nat → Prop} {w' : World} (h : Tb w tsb most made asked mb) (f : Fr S w w') (hs : ¬ S tsb) : Tb w' tsb most made asked mb := f.at h hs
end

abbrev TabIn (w : World) (K : List Nat) (tb : Nat) (l : List Nat) : Prop := ∃ s1 s2, TableAt w K tb s1 s2 (Gz.makeTable l)
abbrev OwnsK (w : World) (mb : Nat) (D : Dx) : Prop := w.ownsMap Tryd.prog 109 RE mb (Maps.size D) D

structure TabsAt (w : World) (K : List Nat) (tsb mb : Nat) (c : Gz.Tc) : Prop where
  blk : Tb w tsb c.most c.made c.asked mb
  ok : c.Ok
  map : ∃ D : Dx, OwnsK w mb D ∧ Holds (TabIn w K) D c.kept

def Duo (a b k : Nat) : Prop := k = a ∨ k = b
def Grow (K K' : List Nat) (w w' : World) : Prop := (∀ k ∈ K, k ∈ K') ∧ ∀ k ∈ K', k ∈ K ∨ (w.heap.size ≤ k ∧ k < w'.heap.size)
theorem Grow.refl (K : List Nat) (w w' : World) : Grow K K w w' := ⟨fun _ h => h, fun _ h => Or.inl h⟩

theorem ownsMap_fr {H : Type} {P : Program} {k : TypeId} {R : Value → Option (DataW H × List MemPlace)} {S : Nat → Prop} {w w' : World} {b n : Nat} {D : DataW H} (h : w.ownsMap P k R b n D) (f : Fr S w w') (hs : ¬ S b) : w'.ownsMap P k R b n D := by
  obtain ⟨es, clock, hb, r⟩ := h
  exact ⟨es, clock, (f.block b (by have := (Array.getElem?_eq_some_iff.1 hb).1; exact this) hs).trans hb, r⟩
theorem grown_fr {w w' : World} {b : Nat} (h : w.grownBy w' (some b)) : Fr (One b) w w' := ⟨h.os, h.tape, h.output, h.size, fun k hk hs => h.block k hk (fun e => hs (Option.some.inj e))⟩
theorem TableAt.frS {S : Nat → Prop} {K : List Nat} {w w' : World} {tb s1 s2 : Nat} {t : Gz.Table} (h : TableAt w K tb s1 s2 t) (f : Fr S w w') (hs : ∀ k ∈ K, ¬ S k) : TableAt w' K tb s1 s2 t :=
  ⟨h.syms.fr f (hs _ h.k0) (hs _ h.k1), h.dists.fr f (hs _ h.k0) (hs _ h.k2), h.g1, h.g2, h.k0, h.k1, h.k2, h.tg.fr f (hs _ h.k0) (hs _ h.k1) (hs _ h.k2)⟩
theorem TableAt.sub {K K' : List Nat} {w : World} {tb s1 s2 : Nat} {t : Gz.Table} (h : TableAt w K tb s1 s2 t) (hK : ∀ k ∈ K, k ∈ K') : TableAt w K' tb s1 s2 t := ⟨h.syms, h.dists, h.g1, h.g2, hK _ h.k0, hK _ h.k1, hK _ h.k2, h.tg⟩

section
variable {w w' : World} {K : List Nat} {tsb mb rb : Nat} {c : Gz.Tc} {s : RS}
theorem TabsAt.fr {S : Nat → Prop} (h : TabsAt w K tsb mb c) (f : Fr S w w') (h1 : ¬ S tsb) (h2 : ¬ S mb) (hK : ∀ k ∈ K, ¬ S k) : TabsAt w' K tsb mb c := by
  obtain ⟨D, hD, hH⟩ := h.map
  exact ⟨h.blk.fr f h1, h.ok, D, ownsMap_fr hD f h2, hH.mono (fun tb l ⟨s1, s2, ht⟩ => ⟨s1, s2, ht.frS f hK⟩)⟩
theorem TabsAt.ne (h : TabsAt w K tsb mb c) (hr : Rd w rb s) : tsb ≠ rb := by
  intro e
  have h1 : w.heap[tsb]? = _ := h.blk
  have h2 : w.heap[rb]? = _ := hr.1
  rw [e, h2] at h1
  simp at h1
theorem TabsAt.nem (h : TabsAt w K tsb mb c) (hr : Rd w rb s) : mb ≠ rb := by
  intro e
  obtain ⟨D, ⟨es, clock, hb, _⟩, _⟩ := h.map
  have h2 : w.heap[rb]? = _ := hr.1
  rw [e, h2] at hb
  simp at hb
theorem TabsAt.ne2 (h : TabsAt w K tsb mb c) : mb ≠ tsb := by
  intro e
  obtain ⟨D, ⟨es, clock, hb, _⟩, _⟩ := h.map
  have h2 : w.heap[tsb]? = _ := h.blk
  rw [e, h2] at hb
  simp at hb
theorem TabsAt.lt (h : TabsAt w K tsb mb c) : tsb < w.heap.size := lt_of h.blk
theorem TabsAt.ltm (h : TabsAt w K tsb mb c) : mb < w.heap.size := by
  obtain ⟨D, hD, _⟩ := h.map
  exact hD.lt
theorem TabsAt.sub {K' : List Nat} (h : TabsAt w K tsb mb c) (hK : ∀ k ∈ K, k ∈ K') : TabsAt w K' tsb mb c := by
  obtain ⟨D, hD, hH⟩ := h.map
  exact ⟨h.blk, h.ok, D, hD, hH.mono (fun tb l ⟨s1, s2, ht⟩ => ⟨s1, s2, ht.sub hK⟩)⟩
end

/-- What a range over the map comes to. -/
theorem met {Tb : Nat → List Nat → Prop} {D : Dx} {L : List (List Nat × Nat)} (hH : Holds Tb D L) (hk : ∀ x ∈ L, KeyOk x.1) {l : List Nat} {c : Option Addr × Int} {kl : Lit} {y : Dx × List MemPlace} (hkey : keyOf Tryd.prog 109 (.agg (uvs l)) = some kl)
    (hv : RE (mkE c) = some y) (hat : ∀ zd, D.atKey kl zd = y.1) : ∃ z ∈ L, l = z.1 ∧ kl = keyLit z.1 ∧ ∃ tb, c = (some ⟨tb, 0, none⟩, (z.2 : Int)) := by
  obtain ⟨l', e1, h1, h2, rfl⟩ := key_inv arrK under5 tysz hkey
  injection e1 with e1
  have e1 : l = l' := kus_inj e1
  subst e1
  obtain ⟨z, hz, e2⟩ := hH.only _ (has_true_of_atKey hat)
  have e3 : l = z.1 := keyLit_inj arrK under5 tysz h1 h2 (hk z hz).1 (hk z hz).byte e2
  obtain ⟨tb, h3, _⟩ := hH.held z hz
  have h4 := hat (.held c)
  have h5 := h3 (.held c)
  rw [e2] at h4
  rw [RE_mk] at hv
  have h6 : y = (.held c, []) := (Option.some.inj hv).symm
  rw [h6, h5] at h4
  injection h4 with h4
  exact ⟨z, hz, e3, e2, tb, h4.symm⟩

/-! In a region that draws its order, under S: loads may be taken first. -/
section
variable {P : Program} {ops : Array Oper} {S : World → Prop} {op : Oper} {a : Act}
theorem yields_row (hw : Region.wanted op (yielded ops a.tmps) = true) (ty : TypeId) (x : Operand) (ho : op.op = .load ty x) (g : Nat) (hx : a.eval x = .pointer (some ⟨g, 0, none⟩)) (t : TypeId) (cs : Array Value) (fr : Nat × Nat) (d : TypeDesc)
    (hS : ∀ w, S w → w.heap[g]? = some (.cells cs t fr)) (hu : P.underlying ty = some d) (hd : (match d with | .struct _ | .array _ _ => true | _ => false) = true) (hi : (P.info? ty).map (·.size) = some cs.size) : YieldsIf P ops S op (.agg cs) a :=
  .inl ⟨hw, fun w h => by
    unfold execOp
    simp only [ho, hx, Instr.loadAt, Instr.sureAddr, Sem.run_bind, Sem.run_pure, Result.andThen_ok, run_loadVar_row w g t ty cs fr d (hS w h) hu hd hi]⟩
theorem yields_look (hw : Region.wanted op (yielded ops a.tmps) = true) (t : TypeId) (m x : Operand) (hop : op.op = Op.lookup t m x true) (k e : TypeId) (Kk : Keyed P k) (ht : P.underlying t = some (.map k e)) (hz : ∀ w, (zeroValue e).run P w = .ok (mkE (none, 0)) w) (b : Nat) (D : Dx)
    (hm : a.eval m = .map (some b)) (hS : ∀ w, S w → w.ownsMap P k RE b (Maps.size D) D) (key : Value) (kl : Lit) (hx : a.eval x = key) (hkey : keyOf P k key = some kl) (y : Option Addr × Int) (hy : D.atKey kl (.held (none, 0)) = .held y) : YieldsIf P ops S op (.tuple #[mkE y, .bool (Maps.has D kl)]) a :=
  .inl ⟨hw, fun w h => by
    obtain ⟨v, ps, hrun, hv⟩ := (hS w h).look_ok Kk ht (hz w) (RE_mk (none, 0)) hkey
    obtain ⟨y', rfl, e1⟩ := RE_inv hv
    have e2 : y' = y := by
      have := congrArg Prod.fst e1
      simp only [hy] at this
      injection this with this
      exact this.symm
    subst e2
    unfold execOp
    simp only [hop, hm, hx, Sem.run_bind, Sem.run_pure, hrun, Result.andThen_ok]⟩
/-- The one that may come up now. -/
theorem wpAnyH_one {md : Region.Mode} {Q : Exit → Act → World → Prop} {i fuel : Nat} {listed : Array Bool} {w : World} (hr : Region.ready md ops listed = [i]) (ho : ops[i]? = some op) (hw : Region.wanted op (yielded ops a.tmps) = true)
    (h : ∀ K' : Act → World → Prop, (∀ a' w', S w' → wpAnyH P md ops Q S fuel (listed.setIfInBounds i true) a' w' → K' a' w') → Oper.wp P op a w K' Q) : wpAnyH P md ops Q S (fuel + 1) listed a w := by
  refine wpAnyH_all hr (by simp) (fun j hj => ?_)
  rw [List.mem_singleton.1 hj]
  unfold Go.wpOp
  simp only [ho, hw, if_true]
  exact .inl (h _ (fun _ _ h1 h2 => ⟨h1, h2⟩))
theorem wp_delete {H : Type} {K : Act → World → Prop} {Q : Exit → Act → World → Prop} {w : World} (m x : Operand) (t k : TypeId) (hop : op.op = Op.call { callee := Callee.builtin Builtin.delete, args := #[m, x], argTypes := #[t, k] })
    (e : TypeId) (Kk : Keyed P k) (ht : P.underlying t = some (.map k e)) (R : Value → Option (DataW H × List MemPlace)) (b n : Nat) (D : DataW H)
    (hm : a.eval m = .map (some b)) (hown : w.ownsMap P k R b n D) (key : Value) (kl : Lit) (hx : a.eval x = key) (hkey : keyOf P k key = some kl)
    (hK : ∀ w', w'.ownsMap P k R b n (D.del kl) → w.mapTurned w' b → K (a.put op.dst (.tuple #[])) w') : Oper.wp P op a w K Q := by
  obtain ⟨w', hrun, r1, r2⟩ := hown.drop Kk ht hkey op.type
  unfold Oper.wp
  simp [execOp, hop, resolve, invoke, builtin, hm, hx, hrun, Result.andThen]
  exact hK w' r1 r2
theorem wp_update {H : Type} {K : Act → World → Prop} {Q : Exit → Act → World → Prop} {w : World} (m x v : Operand) (t : TypeId) (hop : op.op = Op.mapUpdate t m x v)
    (k e : TypeId) (Kk : Keyed P k) (ht : P.underlying t = some (.map k e)) (R : Value → Option (DataW H × List MemPlace)) (b n : Nat) (D : DataW H)
    (hm : a.eval m = .map (some b)) (hown : w.ownsMap P k R b n D) (hn : n < maxLen) (key val : Value) (kl : Lit) (hx : a.eval x = key) (hv : a.eval v = val) (hkey : keyOf P k key = some kl) (d : DataW H) (ps : List MemPlace) (hval : R val = some (d, ps))
    (hK : ∀ w', w'.ownsMap P k R b (n + 1) (D.put kl d) → w.grownBy w' (some b) → K (a.put op.dst undef) w') : Oper.wp P op a w K Q := by
  obtain ⟨w', hrun, r1, r2⟩ := hown.update Kk ht hn hkey hval
  unfold Oper.wp
  simp [execOp, hop, hm, hx, hv, hrun, Result.andThen]
  exact hK w' r1 r2
end

theorem Fr.new {w w1 w2 : World} {b : Nat} (h : Fr No w w1) (h2 : Fr (One b) w1 w2) (hb : w.heap.size ≤ b) : Fr No w w2 :=
  ⟨h2.os.trans h.os, h2.tape.trans h.tape, h2.output.trans h.output, Nat.le_trans h.size h2.size, fun k hk _ => (h2.block k (Nat.lt_of_lt_of_le hk h.size) (one_ne (by omega))).trans (h.block k hk (no_no _))⟩

set_option maxRecDepth 100000 in
set_option maxHeartbeats 1600000 in
theorem oldest_any (K : List Nat) (tsb mb most made asked : Nat) (D : Dx) (x : List Nat × Nat) (kept : List (List Nat × Nat)) (w : World) (hb : Tb w tsb most made asked mb) (hD : OwnsK w mb D) (hH : Holds (TabIn w K) D (x :: kept))
    (hk : ∀ y ∈ x :: kept, KeyOk y.1) (hap : (x :: kept).Pairwise (fun x y => x.1 ≠ y.1)) (hup : (x :: kept).Pairwise (fun x y => x.2 < y.2)) (htop : ∀ y ∈ x :: kept, y.2 ≤ asked) (ha : asked < 2 ^ 62 + 1) (hne : mb ≠ tsb) :
    Calls Tryd.prog 142 #[.pointer (some ⟨tsb, 0, none⟩)] w fun e w' => e = .returned (.tuple #[]) ∧ OwnsK w' mb (D.del (keyLit x.1)) ∧ Fr (One mb) w w' := by
  have hbl := lt_of hb
  have hml := hD.lt
  have h0 : Tb (w.alloc (.cells Tryd.zeroCells109 109)) tsb most made asked mb := alloc_old hb
  have hD0 : OwnsK (w.alloc (.cells Tryd.zeroCells109 109)) mb D := hD.alloc _
  have hz0 : (w.alloc (.cells Tryd.zeroCells109 109)).heap[w.heap.size]? = some (.cells (uvs zeros320) 109 (0, 0)) := alloc_at w _
  have hf0 : Fr No w (w.alloc (.cells Tryd.zeroCells109 109)) := (Fr.refl _ _).alloc _
  have e1 : (w.alloc (.cells Tryd.zeroCells109 109)).heap.size = w.heap.size + 1 := by simp
  have k2 := h0.c2
  have k3 := h0.c3
  have HB := hide h0
  have HZ := hide hz0
  have HF := hide hf0
  have HH := hide hH
  have HK := hide hk
  have HAP := hide hap
  have HUP := hide hup
  have HTOP := hide htop
  clear hb h0 hz0 hf0 hH hk hap hup htop
  go_enter Tryd.func142, Tryd.ntmps142
  go_wp2_with (at_range; refine wpList_range_own _ rfl _ 90 rfl 109 229 lawK underMap RE mb _ D rfl hD0 ?_; intro w1 hrg1 hg1 hs1)
  go_frame
  rw [e1] at hrg1 hs1 ⊢
  go_loopw [3] (fun ahv wr => ∃ (o : List Nat) (ah : Nat) (left : Lit → Bool) (cnt : Nat), ahv = .int .i64 (ah : Nat) ∧ KeyOk o ∧ ah ≤ asked + 1 ∧ wr.heap[w.heap.size]? = some (.cells (uvs o) 109 (0, 0)) ∧ wr.ranges Tryd.prog 109 RE mb (w.heap.size + 1) (Maps.size D) D left cnt ∧ Hid (OldAt (x :: kept) asked left o ah) ∧ Tb wr tsb most made asked mb ∧ Fr No w wr)
    (fun _ wr => wr.rangeLeft mb (w.heap.size + 1))
  case atStart =>
    have hf1 := grown_frNo hg1
    exact ⟨zeros320, asked + 1, Maps.has D, Maps.size D, by go_num, ⟨by simp [zeros320], lens_z _⟩, Nat.le_refl _, hf1.at HZ.out (no_no _), hrg1, OldAt.start (fun y hy => HH.out.has hy), HB.out.fr hf1 (no_no _), HF.out.trans hf1⟩
  case round =>
    obtain ⟨o, ah, left, cnt, rfl, ho, hah, hz, hrg, hold, hb, hfr⟩ := hrel
    have hsz := hfr.size
    go_wp2_with (at_next; refine wpList_next_ranges _ rfl _ rfl 109 lawK RE (fun l : List Nat => .agg (uvs l)) mkE (fun key kl hk => by obtain ⟨l, e, _⟩ := key_inv arrK under5 tysz hk; exact ⟨l, e⟩) (fun v y hv => by obtain ⟨c, e, _⟩ := RE_inv hv; exact ⟨c, e⟩) mb (w.heap.size + 1) _ D left cnt rfl hrg ?_ ?_)
    · intro _ hl0
      have hox : o = x.1 := OldAt.last hold.out hl0 HUP.out (HTOP.out x (List.mem_cons_self ..))
      have hown : OwnsK wr mb D := hrg.owns
      have hkey := keyOk_of ho
      have HZR := hide hz
      have HBR := hide hb
      rw [hox] at hkey
      clear hz hb
      go_wp2
      refine wp_region_held (S := fun W => W.heap[w.heap.size]? = some (.cells (uvs o) 109 (0, 0)) ∧ W.cell? ⟨tsb, 3, none⟩ = some (.map (some mb))) (by kernel_rfl) ?_
      change wpAnyH _ _ _ _ _ _ _ _ (World.drew _)
      have hS0 : (World.drew wr).heap[w.heap.size]? = some (.cells (uvs o) 109 (0, 0)) ∧ (World.drew wr).cell? ⟨tsb, 3, none⟩ = some (.map (some mb)) := ⟨HZR.out, HBR.out.c3⟩
      refine wpAnyH_take (i := 0) (v := ?_) rfl (by kernel_rfl) (by kernel_rfl) (by kernel_rfl) (fun _ _ _ h => h) (Or.inl ⟨by rfl, by intro w _; go_simp; with_reducible rfl⟩) hS0 ?_
      refine wpAnyH_take (i := 1) (v := ?_) rfl (by kernel_rfl) (by kernel_rfl) (by kernel_rfl) (fun _ _ _ h => h) (Or.inl ⟨by rfl, by intro w _; go_simp; with_reducible rfl⟩) hS0 ?_
      refine wpAnyH_take (i := 2) (v := ?_) rfl (by kernel_rfl) (by kernel_rfl) (by kernel_rfl) (fun _ _ _ h => h) (Or.inl ⟨by rfl, by intro w _; go_simp; with_reducible rfl⟩) hS0 ?_
      refine wpAnyH_take (i := 3) (v := .map (some mb)) rfl (by kernel_rfl) (by kernel_rfl) (by kernel_rfl) (fun _ _ _ h => h) (Or.inl ⟨by rfl, by intro w h; have h := h.2; go_simp⟩) hS0 ?_
      refine wpAnyH_take (i := 4) (v := .agg (uvs o)) rfl (by kernel_rfl) (by kernel_rfl) (by kernel_rfl) (fun _ _ _ h => h) (yields_row rfl 109 (.tmp 2) rfl w.heap.size rfl 109 (uvs o) (0, 0) _ (fun _ h => h.1) Tryd.underlying109 rfl (by rw [uvs_size, ho.1]; kernel_rfl)) hS0 ?_
      refine wpAnyH_one (i := 5) (by kernel_rfl) rfl rfl (fun K' hK' => ?_)
      refine wp_delete (.tmp 31) (.tmp 32) 90 109 rfl _ lawK underMap RE mb (Maps.size D) D rfl hown _ (keyLit x.1) (by rw [← hox]; rfl) hkey ?_
      intro w3 hown3 hturn3
      have hf3 : Fr (One mb) wr w3 := (Fr.refl (One mb) wr).drew.trans (grown_fr hturn3.grown)
      have hmz : mb ≠ w.heap.size := by omega
      have hmt : tsb ≠ mb := fun e => hne e.symm
      refine hK' _ _ ⟨hf3.at HZR.out (one_ne (fun e => hmz e.symm)), (HBR.out.fr hf3 (one_ne hmt)).c3⟩ ?_
      clear hK' K'
      refine wpAnyH_done (by kernel_rfl) ?_ _
      go_wp2
      go_end0
      exact ⟨rfl, tight hown3, (hfr.of_no (T := One mb)).trans hf3⟩
    · intro l cp ca kl yd yp w2 cnt2 hkey hlk hv hat hrg2 hlt hg2 hs2 hen
      obtain ⟨z, hzm, rfl, rfl, tb, hc⟩ := met HH.out HK.out (c := (cp, ca)) (y := (yd, yp)) hkey hv hat
      injection hc with hc1 hc2
      subst hc1 hc2
      simp only [mkE] at hen ⊢
      have hfr2 : Fr No w w2 := hfr.new (grown_fr hg2) (by omega)
      have hsz2 := hfr2.size
      have hz2 : w2.heap[w.heap.size]? = some (.cells (uvs o) 109 (0, 0)) := (grown_fr hg2).at hz (one_ne (by omega))
      have hb2 : Tb w2 tsb most made asked mb := hb.fr (grown_fr hg2) (one_ne (by omega))
      obtain ⟨w3, hw3⟩ : ∃ w3, w3 = (w2.alloc (.cells Tryd.zeroCells109 109)).alloc (.cells #[.pointer none, .int .i64 0] 229) := ⟨_, rfl⟩
      have ha3 : w3.heap[w2.heap.size]? = some (.cells (uvs zeros320) 109 (0, 0)) := by rw [hw3]; exact alloc_old (alloc_at w2 _)
      have hb3 : w3.heap[w2.heap.size + 1]? = some (.cells #[.pointer none, .int .i64 0] 229 (0, 0)) := by
        rw [hw3]; have := alloc_at (w2.alloc (.cells Tryd.zeroCells109 109)) (.cells #[.pointer none, .int .i64 0] 229); simpa using this
      obtain ⟨w4, hw4⟩ : ∃ w4, w4 = w3.setRow w2.heap.size (uvs z.1) := ⟨_, rfl⟩
      have ha4 : w4.heap[w2.heap.size]? = some (.cells (uvs z.1) 109 (0, 0)) := by rw [hw4]; exact setRow_heap _ _ _ _ _ _ ha3
      have hb4 : w4.heap[w2.heap.size + 1]? = some (.cells #[.pointer none, .int .i64 0] 229 (0, 0)) := by rw [hw4, setRow_other _ _ _ _ (by omega)]; exact hb3
      obtain ⟨w5, hw5⟩ : ∃ w5, w5 = w4.setRow (w2.heap.size + 1) #[.pointer (some ⟨tb, 0, none⟩), .int .i64 z.2] := ⟨_, rfl⟩
      have ha5 : w5.heap[w2.heap.size]? = some (.cells (uvs z.1) 109 (0, 0)) := by rw [hw5, setRow_other _ _ _ _ (by omega)]; exact ha4
      have hb5 : w5.heap[w2.heap.size + 1]? = some (.cells #[.pointer (some ⟨tb, 0, none⟩), .int .i64 z.2] 229 (0, 0)) := by rw [hw5]; exact setRow_heap _ _ _ _ _ _ hb4
      have hf5 : Fr No w2 w5 := by rw [hw5, hw4, hw3]; exact ((((Fr.refl No w2).alloc _).alloc _).setRow (Nat.le_refl _)).setRow (by omega)
      have k51 : w5.cell? ⟨w2.heap.size + 1, 1, none⟩ = some (.int .i64 z.2) := by rw [cell_of hb5]; rfl
      have hzk := HK.out z hzm
      have hzt := HTOP.out z hzm
      have hzs : (uvs z.1).size = 320 := by rw [uvs_size]; exact hzk.1
      have e2 : (w2.alloc (.cells Tryd.zeroCells109 109)).heap.size = w2.heap.size + 1 := by simp
      have HS2 := hide hs2
      have HA3 := hide ha3
      have HB4 := hide hb4
      have HW3 := hide hw3
      have HW4 := hide hw4
      have HW5 := hide hw5
      have HA5 := hide ha5
      have HB5 := hide hb5
      have HZ2 := hide hz2
      have HB2 := hide hb2
      have HF5 := hide hf5
      clear ha3 hb3 hw3 hw4 hw5 ha4 hb4 ha5 hb5 hz2 hb2 hf5 hz hb hs2
      by_cases hlt2 : z.2 < ah
      · have hd : decide ((z.2 : Int) < (ah : Int)) = true := by simp; omega
        go_wp2_with (first
          | (refine wpList_store_row rfl 109 (.tmp 4) (.tmp 19) rfl w2.heap.size (uvs z.1) rfl rfl 109 (uvs zeros320) (by rw [← HW3.out]; exact HA3.out) (by rw [hzs]; kernel_rfl) (by rw [hzs]; rfl) (by simp [uvs, uv, Value.oneCell']) ?_)
          | (refine wpList_store_row rfl 229 (.tmp 5) (.tmp 20) rfl (w2.heap.size + 1) #[.pointer (some ⟨tb, 0, none⟩), .int .i64 z.2] rfl rfl 229 #[.pointer none, .int .i64 0] (by rw [← HW3.out, ← HW4.out]; exact HB4.out) (by kernel_rfl) rfl (by simp [Value.oneCell']) ?_; rw [← HW3.out, ← HW4.out, ← HW5.out]))
        have hsz5 := HF5.out.size
        have hrl := hrg.lt
        have hwo : w.heap.size ≠ w2.heap.size := by have := HS2.out; omega
        have hwo2 : w.heap.size ≠ w2.heap.size + 1 := by have := HS2.out; omega
        have hz5 : w5.heap[w.heap.size]? = some (.cells (uvs o) 109 (0, 0)) := HF5.out.at HZ2.out (no_no _)
        have HZ5 := hide hz5
        clear hz5
        refine wp_region_held (S := fun W => W.heap[w2.heap.size]? = some (.cells (uvs z.1) 109 (0, 0)) ∧ W.heap[w2.heap.size + 1]? = some (.cells #[.pointer (some ⟨tb, 0, none⟩), .int .i64 z.2] 229 (0, 0))) (by kernel_rfl) ?_
        change wpAnyH _ _ _ _ _ _ _ _ (World.drew _)
        have hS0 : (World.drew w5).heap[w2.heap.size]? = some (.cells (uvs z.1) 109 (0, 0)) ∧ (World.drew w5).heap[w2.heap.size + 1]? = some (.cells #[.pointer (some ⟨tb, 0, none⟩), .int .i64 z.2] 229 (0, 0)) := ⟨HA5.out, HB5.out⟩
        refine wpAnyH_take (i := 0) (v := .agg (uvs z.1)) rfl (by kernel_rfl) (by kernel_rfl) (by kernel_rfl) (fun _ _ _ h => h) (yields_row rfl 109 (.tmp 4) rfl w2.heap.size rfl 109 (uvs z.1) (0, 0) _ (fun _ h => h.1) Tryd.underlying109 rfl (by rw [hzs]; kernel_rfl)) hS0 ?_
        refine wpAnyH_take (i := 1) (v := ?_) rfl (by kernel_rfl) (by kernel_rfl) (by kernel_rfl) (fun _ _ _ h => h) (Or.inl ⟨by rfl, by intro w _; go_simp; with_reducible rfl⟩) hS0 ?_
        refine wpAnyH_take (i := 2) (v := .int .i64 z.2) rfl (by kernel_rfl) (by kernel_rfl) (by kernel_rfl) (fun _ _ _ h => h) (Or.inl ⟨by rfl, by intro w h; have h : w.cell? ⟨w2.heap.size + 1, 1, none⟩ = some (.int .i64 z.2) := by { rw [cell_of h.2]; rfl }; go_simp⟩) hS0 ?_
        refine wpAnyH_one (i := 3) (by kernel_rfl) rfl rfl (fun K' hK' => ?_)
        refine wp_store_row 109 (.tmp 2) (.tmp 25) rfl w.heap.size (uvs z.1) rfl rfl 109 (uvs o) HZ5.out (by rw [hzs]; kernel_rfl) (by rw [hzs, uvs_size]; exact ho.1) (by simp [uvs, uv, Value.oneCell']) ?_
        refine hK' _ _ ⟨by rw [setRow_other _ _ _ _ (fun e => hwo e.symm)]; exact HA5.out, by rw [setRow_other _ _ _ _ (fun e => hwo2 e.symm)]; exact HB5.out⟩ ?_
        clear hK' K'
        refine wpAnyH_take (i := 4) (v := ?_) rfl (by kernel_rfl) (by kernel_rfl) (by kernel_rfl) (fun _ _ _ h => h) (Or.inl ⟨by rfl, by intro w _; go_simp; with_reducible rfl⟩) ⟨by rw [setRow_other _ _ _ _ (fun e => hwo e.symm)]; exact HA5.out, by rw [setRow_other _ _ _ _ (fun e => hwo2 e.symm)]; exact HB5.out⟩ ?_
        refine wpAnyH_done (by kernel_rfl) ?_ _
        have hrg6 : ((World.drew w5).setRow w.heap.size (uvs z.1)).ranges Tryd.prog 109 RE mb (w.heap.size + 1) (Maps.size D) D (fun z' => left z' && !z'.sameKey (keyLit z.1)) cnt2 := by
          refine hrg2.kept (row := some w.heap.size) ⟨HF5.out.os, HF5.out.tape, HF5.out.output, by rw [size_setRow]; exact hsz5, fun k hk hne' => ?_⟩ (fun e => by injection e with e; omega) (fun e => by injection e with e; omega)
          rw [setRow_other _ _ _ _ (fun e => hne' (by rw [e]))]
          exact HF5.out.block k hk (no_no _)
        simp only [List.getElem_toArray, List.getElem_cons_succ, List.getElem_cons_zero]
        go_frame
        go_wp2
        go_roundw
        case rel =>
          refine ⟨z.1, z.2, _, cnt2, rfl, hzk, by omega, setRow_heap _ _ _ _ _ _ HZ5.out, hrg6, hold.out.less keyOk_inj HK.out HAP.out hzm hlt2, ?_, ?_⟩
          · show ((World.drew w5).setRow w.heap.size (uvs z.1)).heap[tsb]? = _
            rw [setRow_other _ _ _ _ (by omega)]
            exact HB2.out.fr HF5.out.drew (no_no _)
          · exact ((hfr2.trans HF5.out).drew).setRow (Nat.le_refl _)
        case measure => rw [hrg6.left_eq, hrg.left_eq]; exact hlt
      · have hd : decide ((z.2 : Int) < (ah : Int)) = false := by simp; omega
        go_wp2_with (first
          | (refine wpList_store_row rfl 109 (.tmp 4) (.tmp 19) rfl w2.heap.size (uvs z.1) rfl rfl 109 (uvs zeros320) (by rw [← HW3.out]; exact HA3.out) (by rw [hzs]; kernel_rfl) (by rw [hzs]; rfl) (by simp [uvs, uv, Value.oneCell']) ?_)
          | (refine wpList_store_row rfl 229 (.tmp 5) (.tmp 20) rfl (w2.heap.size + 1) #[.pointer (some ⟨tb, 0, none⟩), .int .i64 z.2] rfl rfl 229 #[.pointer none, .int .i64 0] (by rw [← HW3.out, ← HW4.out]; exact HB4.out) (by kernel_rfl) rfl (by simp [Value.oneCell']) ?_; rw [← HW3.out, ← HW4.out, ← HW5.out]))
        have hrg6 : w5.ranges Tryd.prog 109 RE mb (w.heap.size + 1) (Maps.size D) D (fun z' => left z' && !z'.sameKey (keyLit z.1)) cnt2 :=
          hrg2.kept (row := none) ⟨HF5.out.os, HF5.out.tape, HF5.out.output, HF5.out.size, fun k hk _ => HF5.out.block k hk (no_no _)⟩ (by simp) (by simp)
        go_roundw
        case rel => exact ⟨o, ah, _, cnt2, rfl, ho, hah, HF5.out.at HZ2.out (no_no _), hrg6, hold.out.more keyOk_inj HK.out HAP.out hzm hlt2, HB2.out.fr HF5.out (no_no _), hfr2.trans HF5.out⟩
        case measure => rw [hrg6.left_eq, hrg.left_eq]; exact hlt
end Go.Proofs.YtjjjlilflbddoaaDoor
