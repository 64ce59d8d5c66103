import Derived.Test.YtjjjlilflbddoaaGreatDoorGDist
import Derived.Shelf.SlicesE.Delete
import Derived.Lib.AppendStr
import Derived.Test.YtjjjlilflbddoaaGreatDoorQOn
/-
  The bytes that were taken whole are let go: slices.Delete, and pass.
-/
namespace Go.Proofs
open Go.Shelf
def Tryz.laysDel_ren : Go.Shelf.Ren := ⟨fun | 45 => 56 | x => x, fun | 0 => 0 | 3 => 3 | 4 => 4 | 22 => 61 | 23 => 5 | x => x, fun x => x⟩
theorem Tryz.laysDel : SlLaysE.n45 Tryz.prog Tryz.laysDel_ren := {
  mixed := by kernel_rfl
  f45 := ⟨"slices.Delete[[]byte,byte]", rfl, Tryz.func56.trans (congrArg some (by kernel_rfl))⟩
  t0 := Tryz.underlying0
  a0 := Tryz.isAgg0
  z0 := Tryz.sizeOf0
  v0 := Tryz.zeroValue0
  t3 := Tryz.underlying3
  a3 := Tryz.isAgg3
  z3 := Tryz.sizeOf3
  v3 := Tryz.zeroValue3
  t4 := Tryz.underlying4
  a4 := Tryz.isAgg4
  z4 := Tryz.sizeOf4
  v4 := Tryz.zeroValue4
  t22 := Tryz.underlying61
  a22 := Tryz.isAgg61
  z22 := Tryz.sizeOf61
  v22 := Tryz.zeroValue61
  a23 := Tryz.isAgg5
  z23 := Tryz.sizeOf5 }
end Go.Proofs
namespace Go.Proofs.YtjjjlilflbddoaaGreatDoor
open Go.RowKit

theorem bv_one : OneCell bv := fun _ => rfl
theorem zeroByte (w : World) : (zeroValue 5).run Tryz.prog w = .ok (bv 0) w := by kernel_rfl
theorem infoU8 : ∃ i, Tryz.prog.info? 5 = some i ∧ i.size = 1 := by
  obtain ⟨i0, hi, hz0, hz1, hz2⟩ := info_parts info5
  exact ⟨i0, hi, hz1⟩

/-- Bytes at the front of a row that is owned are given up. -/
theorem delete_any (B n : Nat) (v : Value) (d : List UInt8) (w : World) (h : w.ownsRow B 5 1 v d.length (d.map bv)) (hn : n ≤ d.length) :
    Calls Tryz.prog 56 #[v, .int .i64 0, .int .i64 n] w fun e w' => ∃ v', e = .returned v' ∧ w'.ownsRow B 5 1 v' (d.drop n).length ((d.drop n).map bv) ∧ (∀ g, v'.ownBlock = some g → v.ownBlock = some g) ∧ Fr (fun k => v.ownBlock = some k) w w' := by
  rcases h.2 with ⟨rfl, h0⟩ | ⟨g, cap, cur, rfl, h1, h2, h3, h4, h5, h6⟩
  · have hd : d = [] := List.length_eq_zero_iff.1 h0
    subst hd
    have hn0 : n = 0 := by simpa using hn
    subst hn0
    go_enter Tryz.func56, Tryz.ntmps56
    go_wp2
    all_goals
      go_ret
      exact ⟨_, rfl, ⟨rfl, Or.inl ⟨rfl, rfl⟩⟩, fun g hg => hg, Fr.refl _ _⟩
  · have hsz : cur.size = cap := by omega
    have hHolds : Sort.Holds bv w g 0 d.toArray := by
      intro j hj
      have hj' : j < d.length := by simpa using hj
      refine ⟨?_, frozen_of h2 _⟩
      rw [cell_of h2, Nat.zero_add]
      have e1 : (cur.toList.take (d.length * 1))[j]? = (d.map bv)[j]? := by rw [h6]
      rw [List.getElem?_take_of_lt (by omega)] at e1
      rw [← Array.getElem?_toList, e1]
      simp [hj']
    obtain ⟨i0, hi0, hi1⟩ := infoU8
    have hC := AnyE.slices_Delete Tryz.laysDel bv bv_one 0 zeroByte i0 hi0 hi1 g 0 cap 0 n d.toArray w hHolds (by simpa using h3) (by unfold maxLen at h4; omega) (Nat.zero_le _) (by simpa using hn)
    have hlen : d.toArray.size = d.length := by simp
    rw [hlen] at hC
    refine hC.mono ?_
    rintro e w' ⟨rfl, q, rfl⟩
    have hnew : (d.toArray.toList.take 0 ++ d.toArray.toList.drop n ++ List.replicate (n - 0) (0 : UInt8)).toArray = (d.drop n ++ List.replicate n 0).toArray := by simp
    rw [hnew]
    have hblk : (Sort.putRow bv (Sort.ahead w q) g 0 (d.drop n ++ List.replicate n 0).toArray).heap[g]? = some (.cells (Sort.putCells bv 0 (d.drop n ++ List.replicate n 0).toArray cur) 5 (0, 0)) := by
      unfold Sort.putRow Sort.mapBlock
      simp only [Array.getElem?_modify, Sort.heap_ahead, if_true, h2, Option.map_some, Sort.onCells]
    have hl2 : (d.drop n).length = d.length - n := by simp
    refine ⟨_, rfl, ⟨by simp, Or.inr ⟨g, cap, _, ?_, h1, hblk, by omega, h4, ?_, ?_⟩⟩, fun g' hg' => hg', ?_⟩
    · rw [hl2, Nat.sub_zero]
    · rw [Nat.mul_one]; unfold Sort.putCells; simpa using hsz
    · rw [Nat.mul_one]
      apply List.ext_getElem?
      intro j
      by_cases hj : j < (d.drop n).length
      · rw [List.getElem?_take_of_lt hj, Array.getElem?_toList]
        unfold Sort.putCells
        rw [Array.getElem?_mapIdx]
        have hjc : j < cur.size := by omega
        rw [Array.getElem?_eq_getElem hjc, Option.map_some, if_pos ⟨Nat.zero_le _, by simp; omega⟩]
        have hjn : n + j < d.length := by omega
        simp [List.getElem?_append_left hj, hjn]
      · rw [List.getElem?_eq_none (by simp; omega), List.getElem?_eq_none (by simp at hj ⊢; omega)]
    · refine ⟨rfl, rfl, rfl, by simp, fun k _ hk => ?_⟩
      have hkg : k ≠ g := fun e => hk (by rw [e]; rfl)
      unfold Sort.putRow Sort.mapBlock
      simp [Array.getElem?_modify, Ne.symm hkg]

set_option maxRecDepth 100000 in
set_option maxHeartbeats 800000 in
theorem pass_any (B rb : Nat) (s : RS) (d : List UInt8) (w : World) (hr : Rd w rb s) (hrow : w.ownsRow B 5 1 s.dv d.length (d.map bv)) (hne : s.dv.ownBlock ≠ some rb) (hp : s.pos ≤ 8 * d.length) (hd : d.length ≤ 4000) (hps : s.ps ≤ 4000) :
    Calls Tryz.prog 37 #[.pointer (some ⟨rb, 0, none⟩)] w fun e w' => e = .returned (.tuple #[]) ∧ ∃ v', Rd w' rb { s with dv := v', ps := s.ps + s.pos / 8, pos := s.pos % 8 } ∧ w'.ownsRow B 5 1 v' (d.drop (s.pos / 8)).length ((d.drop (s.pos / 8)).map bv) ∧
      (∀ g, v'.ownBlock = some g → s.dv.ownBlock = some g) ∧ Fr (fun k => k = rb ∨ s.dv.ownBlock = some k) w w' := by
  have c0 := hr.c0
  have c1 := hr.c1
  have hwn : ((s.pos : Int) / 8) = ((s.pos / 8 : Nat) : Int) := by omega
  have HC := hide (delete_any B (s.pos / 8) s.dv d w hrow (by omega))
  have HR := hide hr
  have HWN := hide hwn
  clear hr hrow hwn
  go_enter Tryz.func37, Tryz.ntmps37
  go_wp2_with fail
  rw [HWN.out]
  refine HC.out.mono ?_
  rintro e w1 ⟨v', rfl, hrow1, hob1, hf1⟩
  obtain ⟨nn, hnn⟩ : ∃ nn, nn = (d.drop (s.pos / 8)).length := ⟨_, rfl⟩
  rw [← hnn] at hrow1
  obtain ⟨ao, cap, rfl⟩ := ownsRow_form hrow1
  have HNN := hide hnn
  clear hnn
  have h1 := hf1.at HR.out.1 hne
  have hb0 := set_of h1 0 (.slice ao nn cap)
  have hb1 := set_of hb0 1 (.int .i64 ((s.ps : Int) + ((s.pos / 8 : Nat) : Int)))
  have k0 : w1.cell? ⟨rb, 0, none⟩ = some s.dv := by rw [cell_of h1]; rfl
  have f0 := frozen_of h1 0
  have k1 : (w1.setCell ⟨rb, 0, none⟩ (.slice ao nn cap)).cell? ⟨rb, 1, none⟩ = some (.int .i64 s.ps) := by rw [cell_of hb0]; rfl
  have f1 := frozen_of hb0 1
  have k2 : ((w1.setCell ⟨rb, 0, none⟩ (.slice ao nn cap)).setCell ⟨rb, 1, none⟩ (.int .i64 ((s.ps : Int) + ((s.pos / 8 : Nat) : Int)))).cell? ⟨rb, 2, none⟩ = some (.int .i64 s.pos) := by rw [cell_of hb1]; rfl
  have f2 := frozen_of hb1 2
  have hb2 := set_of hb1 2 (.int .i64 ((s.pos : Int) - 8 * ((s.pos / 8 : Nat) : Int)))
  obtain ⟨wh, hwh⟩ : ∃ wh, wh = s.pos / 8 := ⟨_, rfl⟩
  rw [← hwh] at k2 f2 hb1 hb2
  have HB2 := hide hb2
  have HROW := hide hrow1
  have HF := hide hf1
  have HWH := hide hwh
  have hwl : wh ≤ 4000 := by omega
  rw [← hwh]
  clear hb0 hb1 hb2 hrow1 hf1 h1 hwh
  go_wp2
  go_end0
  refine ⟨rfl, .slice ao nn cap, ⟨?_, ?_⟩, ?_, hob1, ?_⟩
  · have e1 : ((s.pos : Int) - 8 * (wh : Int)) = ((s.pos % 8 : Nat) : Int) := by rw [HWH.out]; omega
    have e2 : ((s.ps : Int) + (wh : Int)) = ((s.ps + s.pos / 8 : Nat) : Int) := by rw [HWH.out]; omega
    have := HB2.out
    rw [e1, e2] at this
    rw [e1, e2]
    exact this
  · show s.pos % 8 ≤ 8 * nn
    have h1 := HNN.out
    have : (d.drop (s.pos / 8)).length = d.length - s.pos / 8 := by simp
    omega
  · rw [← HNN.out]
    refine ownsRow_fr HROW.out (S := One rb) ((((Fr.refl _ _).setCell (fun _ => one_self rb) _).setCell (fun _ => one_self rb) _).setCell (fun _ => one_self rb) _) (fun g hg => one_ne (fun e => hne (by rw [← e]; exact hob1 g hg)))
  · have hfX : Fr (fun k => k = rb ∨ s.dv.ownBlock = some k) w w1 := HF.out.mono (fun k _ e => Or.inr e)
    exact ((hfX.setCell (p := ⟨rb, 0, none⟩) (fun _ => Or.inl rfl) _).setCell (p := ⟨rb, 1, none⟩) (fun _ => Or.inl rfl) _).setCell (p := ⟨rb, 2, none⟩) (fun _ => Or.inl rfl) _
end Go.Proofs.YtjjjlilflbddoaaGreatDoor
/-
  Appending a string's bytes to a row that is owned: where the new row lies.
-/
namespace Go.Proofs.YtjjjlilflbddoaaGreatDoor
open Go.Lib

theorem run_append_at {P : Program} (w : World) (base : Nat) (t u ty e : TypeId) (i : TypeInfo) (ht : P.underlying t = some (.slice e)) (hu : P.underlying u = some .string) (hi : P.info? e = some i) (hz : i.zero = some (.int .u8 0))
    (hsize : i.size = 1) (hby : i.bytes = 1) (v : Value) (n : Nat) (xs : List Value) (hown : w.ownsRow base e 1 v n xs) (s : ByteArray) (h63 : n + s.size ≤ maxLen) (hbytes : n + s.size ≤ 140737488355328) (hbase : base ≤ w.heap.size) :
    ∃ v' w', (Builtin.append_ #[t, u] ty #[v, .string s]).run P w = .ok v' w' ∧ w'.ownsRow base e 1 v' (n + s.size) (xs ++ strCells s) ∧ w.grownBy w' v.ownBlock ∧ ∀ g, v'.ownBlock = some g → v.ownBlock = some g ∨ w.heap.size ≤ g := by
  have hxl : xs.length = n := by simpa using hown.1
  rcases hown.2 with ⟨rfl, rfl⟩ | ⟨g, cap, cur, rfl, hbg, hg, hnc, hcm, hcs, htake⟩
  · have hx : xs = [] := List.eq_nil_of_length_eq_zero hxl
    subst hx
    obtain ⟨v', w', h1, h2, h3, _⟩ := run_append_own_string (P := P) w w.heap.size t u ty e i ht hu hi hz hsize hby (.slice none 0 0) 0 [] (World.ownsRow_nil _ _ _ _) s h63 hbytes (Nat.le_refl _)
    refine ⟨v', w', h1, ⟨h2.1, ?_⟩, h3, fun g hg => Or.inr ?_⟩
    · rcases h2.2 with h | ⟨g, cap, cur, e1, e2, r⟩
      · exact Or.inl h
      · exact Or.inr ⟨g, cap, cur, e1, Nat.le_trans hbase e2, r⟩
    · rcases h2.2 with ⟨h, _⟩ | ⟨g', cap, cur, e1, e2, _⟩
      · rw [h] at hg; cases hg
      · rw [e1] at hg
        have : g' = g := by simpa [Value.ownBlock] using hg
        omega
  · obtain ⟨v', w', h1, h2, h3, _⟩ := run_append_own_string (P := P) w base t u ty e i ht hu hi hz hsize hby _ n xs hown s h63 hbytes hbase
    refine ⟨v', w', h1, h2, h3, fun g' hg' => ?_⟩
    by_cases hroom : n + s.size ≤ cap
    · have hcs' : cur.size = cap := by simpa using hcs
      have hr := run_append_room_string (P := P) w t u ty e i ht hu hi hsize g n cap cur hg s hroom (by omega)
      rw [h1] at hr
      injection hr with hr
      rw [hr] at hg'
      exact Or.inl hg'
    · have holds : ∀ j u, xs[j]? = some u → w.cell? ((⟨g, 0, none⟩ : Addr).add j) = some u := hown.cells (g := g) rfl
      have hr := run_append_grow_string (P := P) w t u ty e i (.int .u8 0) ht hu hi hz ⟨g, 0, none⟩ n cap xs (by rw [hsize]; simpa using hxl) holds s (by omega) (by unfold maxLen at h63; omega) (by rw [hby]; exact growslice_fits (by omega) (by omega))
      rw [h1] at hr
      injection hr with hr
      rw [hr] at hg'
      have : w.heap.size = g' := by simpa [Value.ownBlock] using hg'
      exact Or.inr (by omega)

theorem wpList_append_at {P : Program} (w : World) {ops : Array Oper} {rest : List Oper} {o : Oper} {a : Act} {Q : Exit → Act → World → Prop} (hgd : o.guard = none) (sl x : Operand) (t u : TypeId)
    (ho : o.op = .call { callee := .builtin .append, args := #[sl, x], argTypes := #[t, u] })
    (base : Nat) (e : TypeId) (i : TypeInfo) (ht : P.underlying t = some (.slice e)) (hu : P.underlying u = some .string) (hi : P.info? e = some i) (hz : i.zero = some (.int .u8 0))
    (hsize : i.size = 1) (hby : i.bytes = 1)
    (v : Value) (n : Nat) (xs : List Value) (hs : a.eval sl = v) (hown : w.ownsRow base e 1 v n xs) (s : ByteArray) (hx : a.eval x = .string s)
    (h63 : n + s.size ≤ maxLen) (hbytes : n + s.size ≤ 140737488355328) (hbase : base ≤ w.heap.size)
    (h : ∀ v' w', w'.ownsRow base e 1 v' (n + s.size) (xs ++ strCells s) → w.grownBy w' v.ownBlock → (∀ g, v'.ownBlock = some g → v.ownBlock = some g ∨ w.heap.size ≤ g) → wpList P ops Q rest (a.put o.dst v') w') : wpList P ops Q (o :: rest) a w := by
  refine wpList_plain hgd fun K hK => ?_
  obtain ⟨v', w', hr, h2, h3, h4⟩ := run_append_at (P := P) w base t u o.type e i ht hu hi hz hsize hby v n xs hown s h63 hbytes hbase
  unfold Oper.wp execOp
  simp only [ho, resolve, invoke, builtin, Sem.run_bind, Sem.run_pure, Result.andThen_ok, List.map_toArray, List.map_cons, List.map_nil, hs, hx, hr]
  exact hK _ _ (h v' w' h2 h3 h4)
end Go.Proofs.YtjjjlilflbddoaaGreatDoor
/-
  The reader at rest, between two pieces.
-/
namespace Go.Proofs.YtjjjlilflbddoaaGreatDoor
open Go.RowKit

namespace Gz
theorem step_grow {d : List UInt8} {lim : Nat} {m : M} : (∀ m', step d lim m = .ok m' → ∃ x, m'.out = m.out ++ x) ∧ ∀ k o, step d lim m = .error (k, o) → ∃ x, o = m.out ++ x := by
  have key : ∀ {α : Type} {r : Out α} {f : α → Nat → Step}, (∀ a q, (∀ m', f a q = .ok m' → ∃ x, m'.out = m.out ++ x) ∧ ∀ k o, f a q = .error (k, o) → ∃ x, o = m.out ++ x) →
      (∀ m', thenS r m.out f = .ok m' → ∃ x, m'.out = m.out ++ x) ∧ ∀ k o, thenS r m.out f = .error (k, o) → ∃ x, o = m.out ++ x := by
    intro α r f hf
    cases r with
    | error k => exact ⟨fun m' h => (by cases h), fun k' o h => (by cases h; exact ⟨[], by rw [List.append_nil]⟩)⟩
    | ok x => obtain ⟨a, q⟩ := x; exact hf a q
  have bad : ∀ (j : Nat) (P : Prop), (∀ m', (Except.error (j, m.out) : Step) = .ok m' → P) ∧ ∀ k o, (Except.error (j, m.out) : Step) = .error (k, o) → ∃ x, o = m.out ++ x :=
    fun j P => ⟨fun m' h => (by cases h), fun k o h => by cases h; exact ⟨[], by rw [List.append_nil]⟩⟩
  have good : ∀ (m1 : M) (x : List UInt8), m1.out = m.out ++ x → (∀ m', (Except.ok m1 : Step) = .ok m' → ∃ x, m'.out = m.out ++ x) ∧ ∀ k o, (Except.ok m1 : Step) = .error (k, o) → ∃ x, o = m.out ++ x :=
    fun m1 x hx => ⟨fun m' h => by cases h; exact ⟨x, hx⟩, fun k o h => (by cases h)⟩
  have nil : ∀ (m1 : M), m1.out = m.out → (∀ m', (Except.ok m1 : Step) = .ok m' → ∃ x, m'.out = m.out ++ x) ∧ ∀ k o, (Except.ok m1 : Step) = .error (k, o) → ∃ x, o = m.out ++ x :=
    fun m1 hx => good m1 [] (by rw [List.append_nil]; exact hx)
  have badx : ∀ (j : Nat), (∀ m', (Except.error (j, m.out) : Step) = .ok m' → ∃ x, m'.out = m.out ++ x) ∧ ∀ k o, (Except.error (j, m.out) : Step) = .error (k, o) → ∃ x, o = m.out ++ x :=
    fun j => ⟨fun m' h => (by cases h), (bad j True).2⟩
  unfold step
  split
  · refine key (fun a q => ?_)
    unfold headS
    split
    · exact nil _ rfl
    split
    · exact nil _ rfl
    split
    · exact nil _ rfl
    · exact badx 3
  · exact key (fun a q => nil _ rfl)
  · split
    · exact nil _ rfl
    · refine key (fun a q => ?_)
      unfold byteS
      split
      · exact badx 8
      · exact good _ [UInt8.ofNat a] rfl
  · exact key (fun a q => nil _ rfl)
  · split
    · exact badx 99
    · refine key (fun a q => ?_)
      unfold obeyS
      split
      · split
        · exact badx 8
        · exact good _ [UInt8.ofNat a] rfl
      split
      · exact nil _ rfl
      split
      · refine key (fun b q2 => ?_)
        unfold copyS
        split
        · exact badx 7
        obtain ⟨x, hx⟩ := copyO_grow lim b.2 (lenFrom.getD (a - 257) 0 + b.1) m.out
        split
        · exact ⟨fun m' h => (by cases h), fun k o h => by cases h; exact ⟨x, hx⟩⟩
        · exact good _ x hx
      · exact badx 6
  · exact badx 0
theorem final_grow (d : List UInt8) (lim : Nat) : ∀ m, m.pos ≤ 8 * d.length → ∃ x, (final d lim m).out = m.out ++ x :=
  final_ind (fun m e _ h => by rw [final_bad h]; exact ⟨[], by rw [List.append_nil]⟩) (fun m m' hp h ih => by
    rw [final_ok h hp]
    obtain ⟨x, hx⟩ := ih
    obtain ⟨y, hy⟩ := step_grow.1 m' h
    exact ⟨y ++ x, by rw [hx, hy, List.append_assoc]⟩)
end Gz

structure Rst (sp : Nat → Addr) (B rb tsb mb : Nat) (K1 : List Nat) (d : List UInt8) (m : Gz.M) (c : Gz.Tc) (w : World) (s : RS) : Prop where
  env : Env sp w
  rd : Rd w rb s
  drow : w.ownsRow B 5 1 s.dv d.length (d.map bv)
  dap : ∀ g, s.dv.ownBlock = some g → g ∉ K1 ∧ s.ov.ownBlock ≠ some g
  row : w.ownsRow B 5 1 s.ov m.out.length (m.out.map bv)
  oap : ∀ k, s.ov.ownBlock = some k → k ∉ K1
  b13 : 16 ≤ B
  bsz : B ≤ w.heap.size
  brb : B ≤ rb
  rbK : rb ∉ K1
  klt : ∀ k ∈ K1, k < w.heap.size
  lim : s.lim ≤ 6000
  len : m.out.length ≤ s.lim
  tot : s.ps + d.length ≤ 4000
  tabs : TabsAt w K1 tsb mb c
  ts : s.ts = .pointer (some ⟨tsb, 0, none⟩)
  b1 : B ≤ tsb
  b2 : B ≤ mb
  n1 : tsb ∉ K1
  n2 : mb ∉ K1
  pos : s.pos = m.pos
  pl : s.pl = m.pl
  la : s.la = m.la
  le : s.le = m.le
  tab : TabAt w K1 s.tb m.tab
  sound : Sound m

theorem row_block {w : World} {B n : Nat} {v : Value} {xs : List Value} (h : w.ownsRow B 5 1 v n xs) {g : Nat} (hg : v.ownBlock = some g) : B ≤ g ∧ ∃ cur, w.heap[g]? = some (.cells cur 5 (0, 0)) := by
  rcases h.2 with ⟨e, _⟩ | ⟨g', cap, cur, e, hb, hh, _⟩
  · rw [e] at hg; cases hg
  · rw [e] at hg
    have : g' = g := by simpa [Value.ownBlock] using hg
    subst this
    exact ⟨hb, cur, hh⟩

section
variable {sp : Nat → Addr} {B rb tsb mb : Nat} {K1 : List Nat} {d : List UInt8} {m : Gz.M} {c : Gz.Tc} {w w' : World} {s : RS}
theorem bytes_ne (hr : Rd w rb s) (hT : TabsAt w K1 tsb mb c) {g : Nat} (h : ∃ cur, w.heap[g]? = some (.cells cur 5 (0, 0))) : g ≠ rb ∧ g ≠ tsb ∧ g ≠ mb := by
  obtain ⟨cur, h⟩ := h
  refine ⟨fun e => ?_, fun e => ?_, fun e => ?_⟩
  · have h2 := hr.1; rw [← e, h] at h2; simp at h2
  · have h2 := hT.blk; unfold Tb at h2; rw [← e, h] at h2; simp at h2
  · obtain ⟨D, ⟨es, clock, hb, _⟩, _⟩ := hT.map; rw [← e, h] at hb; simp at hb

theorem Rst.std (h : Rst sp B rb tsb mb K1 d m c w s) : ∃ db K0, Std sp B rb db tsb mb K0 d m c w s ∧ (∀ k, k ∈ K0 ↔ (k ∈ K1 ∨ s.dv.ownBlock = some k)) ∧ m.pos ≤ 8 * d.length := by
  have hov : ∀ k, s.ov.ownBlock = some k → k ≠ rb ∧ k ≠ tsb ∧ k ≠ mb ∧ k ∉ K1 := fun k hk => by
    have := bytes_ne h.rd h.tabs (row_block h.row hk).2
    exact ⟨this.1, this.2.1, this.2.2, h.oap k hk⟩
  have ht1 := h.tabs.ne h.rd
  have ht2 := h.tabs.nem h.rd
  have htl := h.tabs.lt
  have htm := h.tabs.ltm
  have hdl : d.length ≤ 4000 := by have := h.tot; omega
  have htop : s.top = 8 * d.length := by
    obtain ⟨ao, cap, e⟩ := ownsRow_form h.drow
    unfold RS.top
    rw [e]
  have hmp : m.pos ≤ 8 * d.length := by have := h.rd.2; rw [← h.pos]; omega
  rcases h.drow.2 with ⟨e, h0⟩ | ⟨g, cap, cur, e, hbg, hh, hnc, hcm, hcs, htk⟩
  · have hd0 : d = [] := List.length_eq_zero_iff.1 h0
    refine ⟨tsb, K1, ⟨⟨⟨h.env, h.rd, ⟨none, 0, by rw [e, h0], fun i hi => by omega⟩, h.row, fun k hk => ⟨(hov k hk).1, ?_⟩, h.b13, h.bsz, h.brb, by simp, ?_, fun k hk => ?_, h.lim, h.len, hdl⟩, h.pos, h.pl, h.la, h.le, h.tab.sub (fun k hk => by simp [hk])⟩, h.tabs, h.ts, h.b1, h.b2, h.n1, h.n2⟩, fun k => ⟨Or.inl, fun hk => ?_⟩, hmp⟩
    · simp only [List.mem_cons, not_or]
      exact (hov k hk).2
    · simp only [List.mem_cons, not_or]
      exact ⟨fun e => ht1 e.symm, fun e => ht2 e.symm, h.rbK⟩
    · simp only [List.mem_cons] at hk
      rcases hk with rfl | rfl | hk
      · exact htl
      · exact htm
      · exact h.klt k hk
    · rcases hk with hk | hk
      · exact hk
      · rw [e] at hk; cases hk
  · have hgo : s.dv.ownBlock = some g := by rw [e]; rfl
    have hg := bytes_ne h.rd h.tabs ⟨cur, hh⟩
    have hgd := h.dap g hgo
    have hdat : Dat w g s.dv d := ⟨some ⟨g, 0, none⟩, cap, e, fun i hi => ⟨rfl, lt_of hh, by
      rw [cell_of hh]
      have e1 : (cur.toList.take (d.length * 1))[i]? = (d.map bv)[i]? := by rw [htk]
      rw [List.getElem?_take_of_lt (by omega)] at e1
      rw [← Array.getElem?_toList, e1]
      simp [bv, List.getD, hi]⟩⟩
    refine ⟨g, g :: K1, ⟨⟨⟨h.env, h.rd, hdat, h.row, fun k hk => ⟨(hov k hk).1, ?_⟩, h.b13, h.bsz, h.brb, by simp, ?_, fun k hk => ?_, h.lim, h.len, hdl⟩, h.pos, h.pl, h.la, h.le, h.tab.sub (fun k hk => by simp [hk])⟩, h.tabs.sub (fun k hk => by simp [hk]), h.ts, h.b1, h.b2, ?_, ?_⟩, fun k => ?_, hmp⟩
    · simp only [List.mem_cons, not_or]
      exact ⟨(hov k hk).2.1, (hov k hk).2.2.1, fun e => hgd.2 (e ▸ hk), (hov k hk).2.2.2⟩
    · simp only [List.mem_cons, not_or]
      exact ⟨fun e => ht1 e.symm, fun e => ht2 e.symm, fun e => hg.1 e.symm, h.rbK⟩
    · simp only [List.mem_cons] at hk
      rcases hk with rfl | rfl | rfl | hk
      · exact htl
      · exact htm
      · exact lt_of hh
      · exact h.klt k hk
    · simp only [List.mem_cons, not_or]
      exact ⟨fun e => hg.2.1 e.symm, h.n1⟩
    · simp only [List.mem_cons, not_or]
      exact ⟨fun e => hg.2.2 e.symm, h.n2⟩
    · rw [hgo]
      simp only [List.mem_cons, Option.some.injEq]
      exact ⟨fun h => h.elim (fun h => Or.inr h.symm) Or.inl, fun h => h.elim Or.inr (fun h => Or.inl h.symm)⟩

theorem TableAt.cut {K K' : List Nat} {tb s1 s2 : Nat} {t : Gz.Table} (hT : TableAt w K tb s1 s2 t) (hK : ∀ k, k ∈ K → (∃ cc ty, w.heap[k]? = some (.cells cc ty (0, 0)) ∧ (ty = 207 ∨ ty = 3)) → k ∈ K') : TableAt w K' tb s1 s2 t := by
  obtain ⟨⟨a, ha⟩, ⟨b, hb⟩, c', hc⟩ := hT.tg
  exact ⟨hT.syms, hT.dists, hT.g1, hT.g2, hK _ hT.k0 ⟨_, _, ha, Or.inl rfl⟩, hK _ hT.k1 ⟨_, _, hb, Or.inr rfl⟩, hK _ hT.k2 ⟨_, _, hc, Or.inr rfl⟩, hT.tg⟩

/-- Behind the steps. -/
theorem Std.rst {db : Nat} {K' : List Nat} (h : Std sp B rb db tsb mb K' d m c w s) (hrow : w.ownsRow B 5 1 s.dv d.length (d.map bv)) (hg : ∀ g, s.dv.ownBlock = some g → g ∈ K') (hso : Sound m) (htot : s.ps + d.length ≤ 4000) :
    Rst sp B rb tsb mb (K'.filter fun k => decide (s.dv.ownBlock ≠ some k)) d m c w s := by
  have hL := h.at'.live
  have hmem : ∀ k, k ∈ (K'.filter fun k => decide (s.dv.ownBlock ≠ some k)) ↔ (k ∈ K' ∧ s.dv.ownBlock ≠ some k) := fun k => by simp [List.mem_filter]
  have hcut : ∀ k, k ∈ tsb :: mb :: K' → (∃ cc ty, w.heap[k]? = some (.cells cc ty (0, 0)) ∧ (ty = 207 ∨ ty = 3)) → k ∈ (K'.filter fun k => decide (s.dv.ownBlock ≠ some k)) := fun k hk ⟨cc, ty, hh, hty⟩ => by
    rw [hmem]
    have hty5 : ty ≠ 5 := fun e => by rw [e] at hty; revert hty; decide
    simp only [List.mem_cons] at hk
    rcases hk with rfl | rfl | hk
    · have h2 := h.tabs.blk
      unfold Tb at h2
      rw [hh] at h2
      injection h2 with h2
      injection h2 with _ h2
      rw [h2] at hty
      exact absurd hty (by decide)
    · obtain ⟨D, ⟨es, clock, hb, _⟩, _⟩ := h.tabs.map
      rw [hh] at hb; simp at hb
    · refine ⟨hk, fun e => ?_⟩
      obtain ⟨_, cur, h2⟩ := row_block hrow e
      rw [hh] at h2
      injection h2 with h2
      injection h2 with _ h2
      exact hty5 h2
  obtain ⟨D, hD, hH⟩ := h.tabs.map
  refine ⟨hL.env, hL.rd, hrow, fun g hgd => ⟨fun hm => ((hmem g).1 hm).2 hgd, fun e => (hL.apart g e).2 (by simp [hg g hgd])⟩, hL.row, fun k hk hm => (hL.apart k hk).2 (by simp [((hmem k).1 hm).1]), hL.b13, hL.bsz, hL.brb, fun hm => hL.rbK (by simp [((hmem rb).1 hm).1]), fun k hk => hL.klt k (by simp [((hmem k).1 hk).1]), hL.lim, hL.len, htot,
    ⟨h.tabs.blk, h.tabs.ok, D, hD, hH.mono (fun tb l ⟨s1, s2, hT⟩ => ⟨s1, s2, hT.cut (fun k hk ht => hcut k (by simp [hk]) ht)⟩)⟩, h.ts, h.b1, h.b2, fun hm => h.n1 ((hmem _).1 hm).1, fun hm => h.n2 ((hmem _).1 hm).1, h.at'.pos, h.at'.pl, h.at'.la, h.at'.le, ?_, hso⟩
  have ht := h.at'.tab
  cases hm : m.tab with
  | none => rw [hm] at ht; exact ht
  | some x =>
    rw [hm] at ht
    obtain ⟨tb, s1, s2, e, hT⟩ := ht
    exact ⟨tb, s1, s2, e, hT.cut hcut⟩

/-- Bytes that were taken whole are let go. -/
theorem Rst.pass (h : Rst sp B rb tsb mb K1 d m c w s) :
    Calls Tryz.prog 37 #[.pointer (some ⟨rb, 0, none⟩)] w fun e w' => e = .returned (.tuple #[]) ∧ ∃ s', Rst sp B rb tsb mb K1 (d.drop (m.pos / 8)) { m with pos := m.pos % 8 } c w' s' ∧ s'.ps = s.ps + m.pos / 8 ∧ s'.lim = s.lim ∧ s'.ov = s.ov ∧ Fr (fun k => k = rb ∨ s.dv.ownBlock = some k) w w' := by
  have htot := h.tot
  have htop : s.top = 8 * d.length := by
    obtain ⟨ao, cap, e⟩ := ownsRow_form h.drow
    unfold RS.top
    rw [e]
  have hp : s.pos ≤ 8 * d.length := by have := h.rd.2; omega
  have hb : ∀ {g : Nat}, s.dv.ownBlock = some g → B ≤ g ∧ g ≠ rb ∧ g ≠ tsb ∧ g ≠ mb := fun hg => by
    have h1 := row_block h.drow hg
    have h2 := bytes_ne h.rd h.tabs h1.2
    exact ⟨h1.1, h2⟩
  refine (pass_any B rb s d w h.rd h.drow (fun e => (hb e).2.1 rfl) hp (by omega) (by omega)).mono ?_
  rintro e w' ⟨rfl, v', hr, hrow, hob, f⟩
  rw [h.pos] at hr hrow
  have h13 := h.b13
  have hbr := h.brb
  have hn : ∀ {k : Nat}, k ≠ rb → s.dv.ownBlock ≠ some k → ¬ (k = rb ∨ s.dv.ownBlock = some k) := fun a b e => e.elim a b
  have hKn : ∀ k ∈ K1, ¬ (k = rb ∨ s.dv.ownBlock = some k) := fun k hk => hn (fun e => h.rbK (e ▸ hk)) (fun e => (h.dap k e).1 hk)
  have hdl : (d.drop (m.pos / 8)).length = d.length - m.pos / 8 := by simp
  have hmp : m.pos = s.pos := h.pos.symm
  refine ⟨rfl, _, ⟨h.env.fr f (fun k hk => hn (by omega) (fun e => by have := (hb e).1; omega)), hr, hrow, fun g hg => h.dap g (hob g hg), ownsRow_fr h.row f (fun g hg => hn (bytes_ne h.rd h.tabs (row_block h.row hg).2).1 (fun e => (h.dap g e).2 hg)), h.oap, h13, Nat.le_trans h.bsz f.size, hbr, h.rbK, fun k hk => Nat.lt_of_lt_of_le (h.klt k hk) f.size, h.lim, h.len, ?_,
    h.tabs.fr f (hn (h.tabs.ne h.rd) (fun e => (hb e).2.2.1 rfl)) (hn (h.tabs.nem h.rd) (fun e => (hb e).2.2.2 rfl)) hKn, h.ts, h.b1, h.b2, h.n1, h.n2, rfl, h.pl, h.la, h.le, ?_, ⟨h.sound.pl, h.sound.tab, h.sound.le⟩⟩, rfl, rfl, rfl, f⟩
  · show s.ps + m.pos / 8 + (d.drop (m.pos / 8)).length ≤ 4000
    omega
  · have ht := h.tab
    show TabAt w' K1 s.tb m.tab
    cases hm : m.tab with
    | none => rw [hm] at ht; exact ht
    | some x =>
      rw [hm] at ht
      obtain ⟨tb, s1, s2, e, hT⟩ := ht
      exact ⟨tb, s1, s2, e, hT.frS f hKn⟩
end
section
variable {sp : Nat → Addr} {B rb tsb mb : Nat} {K1 : List Nat} {d : List UInt8} {m : Gz.M} {c : Gz.Tc} {w w' : World} {s : RS}
theorem Rst.still (h : Rst sp B rb tsb mb K1 d m c w s) (f : Fr No w w') : Rst sp B rb tsb mb K1 d m c w' s := by
  refine ⟨h.env.fr f (fun _ _ => no_no _), h.rd.fr f (no_no _), ownsRow_fr h.drow f (fun _ _ => no_no _), h.dap, ownsRow_fr h.row f (fun _ _ => no_no _), h.oap, h.b13, Nat.le_trans h.bsz f.size, h.brb, h.rbK, fun k hk => Nat.lt_of_lt_of_le (h.klt k hk) f.size, h.lim, h.len, h.tot, h.tabs.fr f (no_no _) (no_no _) (fun _ _ => no_no _), h.ts, h.b1, h.b2, h.n1, h.n2, h.pos, h.pl, h.la, h.le, ?_, h.sound⟩
  have ht := h.tab
  cases hm : m.tab with
  | none => rw [hm] at ht; exact ht
  | some x =>
    rw [hm] at ht
    obtain ⟨tb, s1, s2, e, hT⟩ := ht
    exact ⟨tb, s1, s2, e, hT.frS f (fun _ _ => no_no _)⟩

/-- A piece is put behind the data. -/
theorem Rst.app {p : List UInt8} {v' : Value} {w1 : World} (h : Rst sp B rb tsb mb K1 d m c w s) (f : Fr (fun k => s.dv.ownBlock = some k) w w1) (hrow : w1.ownsRow B 5 1 v' (d ++ p).length ((d ++ p).map bv)) (hloc : ∀ g, v'.ownBlock = some g → s.dv.ownBlock = some g ∨ w.heap.size ≤ g) (htot : s.ps + (d ++ p).length ≤ 4000) :
    Rst sp B rb tsb mb K1 (d ++ p) m c (w1.setCell ⟨rb, 0, none⟩ v') { s with dv := v' } ∧ Fr (Own B K1) w (w1.setCell ⟨rb, 0, none⟩ v') := by
  have hb : ∀ {g : Nat}, s.dv.ownBlock = some g → B ≤ g ∧ g ≠ rb ∧ g ≠ tsb ∧ g ≠ mb := fun hg => by
    have h1 := row_block h.drow hg
    have h2 := bytes_ne h.rd h.tabs h1.2
    exact ⟨h1.1, h2⟩
  have h13 := h.b13
  have hbr := h.brb
  have hrl := h.rd.lt
  have f1 : Fr (fun k => k = rb ∨ s.dv.ownBlock = some k) w w1 := f.mono (fun k _ e => Or.inr e)
  have f2 : Fr (fun k => k = rb ∨ s.dv.ownBlock = some k) w (w1.setCell ⟨rb, 0, none⟩ v') := f1.setCell (p := ⟨rb, 0, none⟩) (fun _ => Or.inl rfl) _
  have hn : ∀ {k : Nat}, k ≠ rb → s.dv.ownBlock ≠ some k → ¬ (k = rb ∨ s.dv.ownBlock = some k) := fun a b e => e.elim a b
  have hKn : ∀ k ∈ K1, ¬ (k = rb ∨ s.dv.ownBlock = some k) := fun k hk => hn (fun e => h.rbK (e ▸ hk)) (fun e => (h.dap k e).1 hk)
  have hov : ∀ g, s.ov.ownBlock = some g → ¬ (g = rb ∨ s.dv.ownBlock = some g) := fun g hg => hn (bytes_ne h.rd h.tabs (row_block h.row hg).2).1 (fun e => (h.dap g e).2 hg)
  have h1 := f.at h.rd.1 (fun e => (hb e).2.1 rfl)
  have hlen : d.length ≤ (d ++ p).length := by simp
  have htop : s.top = 8 * d.length := by
    obtain ⟨ao, cap, e⟩ := ownsRow_form h.drow
    unfold RS.top
    rw [e]
  obtain ⟨ao, cap, ev⟩ := ownsRow_form hrow
  have hvr : v'.ownBlock ≠ some rb := fun e => by
    rcases hloc rb e with h | h
    · exact (hb h).2.1 rfl
    · omega
  refine ⟨⟨h.env.fr f2 (fun k hk => hn (by omega) (fun e => by have := (hb e).1; omega)), ⟨by rw [set_of h1]; rfl, ?_⟩, ownsRow_fr hrow (S := One rb) ((Fr.refl _ _).setCell (fun _ => one_self rb) _) (fun g hg => one_ne (fun e => hvr (e ▸ hg))), fun g hg => ⟨fun hm => ?_, fun e => ?_⟩, ownsRow_fr h.row f2 hov, h.oap, h13, Nat.le_trans h.bsz f2.size, hbr, h.rbK, fun k hk => Nat.lt_of_lt_of_le (h.klt k hk) f2.size, h.lim, h.len, htot,
    h.tabs.fr f2 (hn (h.tabs.ne h.rd) (fun e => (hb e).2.2.1 rfl)) (hn (h.tabs.nem h.rd) (fun e => (hb e).2.2.2 rfl)) hKn, h.ts, h.b1, h.b2, h.n1, h.n2, h.pos, h.pl, h.la, h.le, ?_, h.sound⟩, f2.mono (fun k _ e => ?_)⟩
  · have := h.rd.2
    show s.pos ≤ RS.top _
    unfold RS.top
    simp only [ev]
    omega
  · rcases hloc g hg with hg | hg
    · exact (h.dap g hg).1 hm
    · have := h.klt g hm; omega
  · rcases hloc g hg with hg | hg
    · exact (h.dap g hg).2 e
    · obtain ⟨_, cur, hh⟩ := row_block h.row e
      have := lt_of hh
      omega
  · have ht := h.tab
    show TabAt _ K1 s.tb m.tab
    cases hm : m.tab with
    | none => rw [hm] at ht; exact ht
    | some x =>
      rw [hm] at ht
      obtain ⟨tb, s1, s2, e, hT⟩ := ht
      exact ⟨tb, s1, s2, e, hT.frS f2 hKn⟩
  · rcases e with rfl | e
    · exact ⟨hbr, h.rbK⟩
    · exact ⟨(hb e).1, (h.dap k e).1⟩
end
end Go.Proofs.YtjjjlilflbddoaaGreatDoor
