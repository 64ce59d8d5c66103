import Derived.Test.YtjjjlilflbddoaaGreatDoorFPure
import Derived.Test.YtjjjlilflbddoaaGreatDoorRInfl
import Derived.Test.YtjjjlilflbddoaaGreatDoorFDec
/-
  The document's decoder in memory.
-/
namespace Go.Proofs.YtjjjlilflbddoaaGreatDoor
open Go.RowKit

/-- The keys that are kept: the list, and each of them, lie in blocks of Z. -/
def Kl (w : World) (Z : List Nat) (kv : Value) (keys : List (List Nat)) : Prop :=
  ∃ a cap, kv = .slice a keys.length cap ∧ ∀ i, i < keys.length → ∃ b off v bk, a = some ⟨b, off, none⟩ ∧ b ∈ Z ∧ b < w.heap.size ∧ w.cell? ⟨b, off + i, none⟩ = some v ∧ bk ∈ Z ∧ Ins w bk v (keys.getD i [])
/-- The decoder's block. -/
def Rb (w : World) (rcb : Nat) (r : Rf.Dec) (t : ByteArray) (kv : Value) : Prop :=
  w.heap[rcb]? = some (.cells #[.int .i64 r.cache, kv, .int .i64 r.made, .bool r.begun, .int .i64 r.lim, .string t, .int .i64 r.err, .bool r.done, .int .i64 r.used, .int .i64 r.told, .int .i64 r.asked] 43 (0, 0))
structure RDec (w : World) (rcb : Nat) (Z : List Nat) (r : Rf.Dec) : Prop where
  blk : ∃ t kv, Rb w rcb r t kv ∧ t.data.toList = r.data ∧ Kl w Z kv r.keys
  zlt : ∀ z ∈ Z, z < w.heap.size
  nz : rcb ∉ Z

section
variable {w w' : World} {rcb : Nat} {Z Z' : List Nat} {r : Rf.Dec} {t : ByteArray} {kv v : Value} {keys : List (List Nat)}
theorem ins_same {b : Nat} {l : List Nat} (h : Ins w b v l) (e : w'.heap[b]? = w.heap[b]?) (hs : w.heap.size ≤ w'.heap.size) : Ins w' b v l := by
  obtain ⟨a, off, cap, rfl, hc⟩ := h
  refine ⟨a, off, cap, rfl, fun i hi => ?_⟩
  obtain ⟨h1, h2, h3⟩ := hc i hi
  exact ⟨h1, by omega, (World.cell?_of_block e).trans h3⟩
theorem Kl.same (h : Kl w Z kv keys) (hs : w.heap.size ≤ w'.heap.size) (e : ∀ k ∈ Z, w'.heap[k]? = w.heap[k]?) (hZ : ∀ k ∈ Z, k ∈ Z') : Kl w' Z' kv keys := by
  obtain ⟨a, cap, rfl, hc⟩ := h
  refine ⟨a, cap, rfl, fun i hi => ?_⟩
  obtain ⟨b, off, v, bk, h1, h2, h3, h4, h5, h6⟩ := hc i hi
  exact ⟨b, off, v, bk, h1, hZ b h2, by omega, (World.cell?_of_block (e b h2)).trans h4, hZ bk h5, ins_same h6 (e bk h5) hs⟩
/-- What leaves its blocks as they are leaves the decoder as it is. -/
theorem RDec.same (h : RDec w rcb Z r) (hs : w.heap.size ≤ w'.heap.size) (e : ∀ k ∈ rcb :: Z, w'.heap[k]? = w.heap[k]?) : RDec w' rcb Z r := by
  obtain ⟨t, kv, hb, ht, hk⟩ := h.blk
  exact ⟨⟨t, kv, (e rcb List.mem_cons_self).trans hb, ht, hk.same hs (fun k hk => e k (List.mem_cons_of_mem _ hk)) (fun _ h => h)⟩, fun z hz => Nat.lt_of_lt_of_le (h.zlt z hz) hs, h.nz⟩
theorem Rb.c0 (h : Rb w rcb r t kv) : w.cell? ⟨rcb, 0, none⟩ = some (.int .i64 r.cache) := by rw [cell_of h]; rfl
theorem Rb.c1 (h : Rb w rcb r t kv) : w.cell? ⟨rcb, 1, none⟩ = some kv := by rw [cell_of h]; rfl
theorem Rb.c2 (h : Rb w rcb r t kv) : w.cell? ⟨rcb, 2, none⟩ = some (.int .i64 r.made) := by rw [cell_of h]; rfl
theorem Rb.c3 (h : Rb w rcb r t kv) : w.cell? ⟨rcb, 3, none⟩ = some (.bool r.begun) := by rw [cell_of h]; rfl
theorem Rb.c4 (h : Rb w rcb r t kv) : w.cell? ⟨rcb, 4, none⟩ = some (.int .i64 r.lim) := by rw [cell_of h]; rfl
theorem Rb.c5 (h : Rb w rcb r t kv) : w.cell? ⟨rcb, 5, none⟩ = some (.string t) := by rw [cell_of h]; rfl
theorem Rb.c6 (h : Rb w rcb r t kv) : w.cell? ⟨rcb, 6, none⟩ = some (.int .i64 r.err) := by rw [cell_of h]; rfl
theorem Rb.c7 (h : Rb w rcb r t kv) : w.cell? ⟨rcb, 7, none⟩ = some (.bool r.done) := by rw [cell_of h]; rfl
theorem Rb.c8 (h : Rb w rcb r t kv) : w.cell? ⟨rcb, 8, none⟩ = some (.int .i64 r.used) := by rw [cell_of h]; rfl
theorem Rb.c9 (h : Rb w rcb r t kv) : w.cell? ⟨rcb, 9, none⟩ = some (.int .i64 r.told) := by rw [cell_of h]; rfl
theorem Rb.c10 (h : Rb w rcb r t kv) : w.cell? ⟨rcb, 10, none⟩ = some (.int .i64 r.asked) := by rw [cell_of h]; rfl
theorem Rb.fz (h : Rb w rcb r t kv) (i : Nat) : w.frozen? ⟨rcb, i, none⟩ = false := frozen_of h i
theorem Rb.s1 (h : Rb w rcb r t kv) (v : Value) : Rb (w.setCell ⟨rcb, 1, none⟩ v) rcb r t v := by unfold Rb; rw [set_of h]; rfl
theorem Rb.s2 (h : Rb w rcb r t kv) (z : Int) (n : Nat) (e : z = n) : Rb (w.setCell ⟨rcb, 2, none⟩ (.int .i64 z)) rcb { r with made := n } t kv := by subst e; unfold Rb; rw [set_of h]; rfl
theorem Rb.s3 (h : Rb w rcb r t kv) (b : Bool) : Rb (w.setCell ⟨rcb, 3, none⟩ (.bool b)) rcb { r with begun := b } t kv := by unfold Rb; rw [set_of h]; rfl
theorem Rb.s4 (h : Rb w rcb r t kv) (z : Int) (n : Nat) (e : z = n) : Rb (w.setCell ⟨rcb, 4, none⟩ (.int .i64 z)) rcb { r with lim := n } t kv := by subst e; unfold Rb; rw [set_of h]; rfl
theorem Rb.s5 (h : Rb w rcb r t kv) (u : ByteArray) : Rb (w.setCell ⟨rcb, 5, none⟩ (.string u)) rcb r u kv := by unfold Rb; rw [set_of h]; rfl
theorem Rb.s6 (h : Rb w rcb r t kv) (z : Int) (n : Nat) (e : z = n) : Rb (w.setCell ⟨rcb, 6, none⟩ (.int .i64 z)) rcb { r with err := n } t kv := by subst e; unfold Rb; rw [set_of h]; rfl
theorem Rb.s7 (h : Rb w rcb r t kv) (b : Bool) : Rb (w.setCell ⟨rcb, 7, none⟩ (.bool b)) rcb { r with done := b } t kv := by unfold Rb; rw [set_of h]; rfl
theorem Rb.s8 (h : Rb w rcb r t kv) (z : Int) : Rb (w.setCell ⟨rcb, 8, none⟩ (.int .i64 z)) rcb { r with used := z } t kv := by unfold Rb; rw [set_of h]; rfl
theorem Rb.s9 (h : Rb w rcb r t kv) (z : Int) (n : Nat) (e : z = n) : Rb (w.setCell ⟨rcb, 9, none⟩ (.int .i64 z)) rcb { r with told := n } t kv := by subst e; unfold Rb; rw [set_of h]; rfl
theorem Rb.s10 (h : Rb w rcb r t kv) (z : Int) (n : Nat) (e : z = n) : Rb (w.setCell ⟨rcb, 10, none⟩ (.int .i64 z)) rcb { r with asked := n } t kv := by subst e; unfold Rb; rw [set_of h]; rfl
theorem Rb.fr {S : Nat → Prop} (h : Rb w rcb r t kv) (f : Fr S w w') (hs : ¬ S rcb) : Rb w' rcb r t kv := f.at h hs
/-- Data and keys apart, the block says it all. -/
theorem Rb.of (h : Rb w rcb r t kv) (r' : Rf.Dec) (h0 : r'.cache = r.cache) (h1 : r'.made = r.made) (h2 : r'.begun = r.begun) (h3 : r'.lim = r.lim) (h4 : r'.err = r.err) (h5 : r'.done = r.done) (h6 : r'.used = r.used) (h7 : r'.told = r.told) (h8 : r'.asked = r.asked) : Rb w rcb r' t kv := by
  unfold Rb at *
  rw [h0, h1, h2, h3, h4, h5, h6, h7, h8]
  exact h
end
end Go.Proofs.YtjjjlilflbddoaaGreatDoor
namespace Go.Proofs.YtjjjlilflbddoaaGreatDoor
open Go.RowKit

theorem eq_of_takes {l1 l2 : List Nat} {n : Nat} (h1 : l1.length = n) (h2 : l2.length = n) (h : l1.take n = l2.take n) : l1 = l2 := by
  rw [List.take_of_length_le (by omega), List.take_of_length_le (by omega)] at h
  exact h
theorem takes_step {l1 l2 : List Nat} {k : Nat} (h1 : k < l1.length) (h2 : k < l2.length) (h : l1.take k = l2.take k) (e : l1.getD k 0 = l2.getD k 0) : l1.take (k + 1) = l2.take (k + 1) := by
  rw [List.take_add_one, List.take_add_one, h, List.getElem?_eq_getElem h1, List.getElem?_eq_getElem h2]
  rw [List.getD, List.getD, List.getElem?_eq_getElem h1, List.getElem?_eq_getElem h2] at e
  simp only [Option.getD_some] at e
  rw [e]

set_option maxRecDepth 100000 in
set_option maxHeartbeats 1600000 in
/-- Are two keys the same? -/
theorem rsame_any (b1 b2 : Nat) (v1 v2 : Value) (l1 l2 : List Nat) (w : World) (hi1 : Ins w b1 v1 l1) (hi2 : Ins w b2 v2 l2) (hn1 : l1.length = 316) (hn2 : l2.length = 316) :
    Calls Tryz.prog 70 #[v1, v2] w fun e w' => e = .returned (.bool (l1 == l2)) ∧ Fr No w w' := by
  obtain ⟨a1, o1, p1, rfl, hc1⟩ := hi1
  obtain ⟨a2, o2, p2, rfl, hc2⟩ := hi2
  rw [hn1] at hc1 ⊢
  rw [hn2] at hc2 ⊢
  have HC1 := hide hc1
  have HC2 := hide hc2
  have HN1 := hide hn1
  have HN2 := hide hn2
  clear hc1 hc2 hn1 hn2
  go_enter Tryz.func70, Tryz.ntmps70
  go_wp2
  go_loopw [5] (fun i wr => ∃ k : Nat, k ≤ 316 ∧ i = .int .i64 k ∧ Hid (l1.take k = l2.take k) ∧ Hid (Fr No w wr)) (fun i _ => 316 - (intOf i).toNat)
  case atStart => exact ⟨0, Nat.zero_le _, rfl, rfl, Fr.refl _ _⟩
  case round =>
    obtain ⟨k, hk, rfl, HT, HF⟩ := hrel
    by_cases hlt : k < 316
    · obtain ⟨rfl, hb1, c1⟩ := HC1.out k hlt
      obtain ⟨rfl, hb2, c2⟩ := HC2.out k hlt
      have c1 := (HF.out.cell (p := ⟨b1, o1 + k, none⟩) hb1 (no_no _)).trans c1
      have c2 := (HF.out.cell (p := ⟨b2, o2 + k, none⟩) hb2 (no_no _)).trans c2
      have HS : Hid (l1.getD k 0 = l2.getD k 0 → l1.take (k + 1) = l2.take (k + 1)) := fun e => takes_step (by rw [HN1.out]; exact hlt) (by rw [HN2.out]; exact hlt) HT.out e
      have HNE : Hid (l1.getD k 0 ≠ l2.getD k 0 → (l1 == l2) = false) := fun h => beq_eq_false_iff_ne.2 (fun e => h (by rw [e]))
      generalize l1.getD k 0 = x at *
      generalize l2.getD k 0 = y at *
      by_cases hxy : x = y
      · have HS2 := hide (HS.out hxy)
        subst hxy
        have hq : ((x : Int) != (x : Int)) = false := by simp
        go_wp2
        go_quiet (fail)
        go_wp2
        refine ⟨⟨k + 1, by omega, by go_num, HS2.out, HF.out.drewN _⟩, by simp [intOf]; omega⟩
      · have hq : ((x : Int) != (y : Int)) = true := by simp; omega
        go_wp2
        go_quiet (fail)
        go_wp2
        go_ret
        exact ⟨by rw [HNE.out hxy]; rfl, HF.out.drewN _⟩
    · have e : k = 316 := by omega
      subst e
      go_wp2
      go_ret
      refine ⟨?_, HF.out⟩
      rw [eq_of_takes HN1.out HN2.out HT.out, beq_self_eq_true]
      rfl

/-- The keys that were passed on, and whether the key was among them. -/
def passed (keys : List (List Nat)) (key : List Nat) (n : Nat) : List (List Nat) := (keys.take n).filter fun a => !(a == key)
theorem passed_step {keys : List (List Nat)} {key : List Nat} {n : Nat} (h : n < keys.length) : passed keys key (n + 1) = passed keys key n ++ (if keys.getD n [] == key then [] else [keys.getD n []]) := by
  unfold passed
  rw [List.take_add_one, List.getElem?_eq_getElem h, List.filter_append, List.getD, List.getElem?_eq_getElem h]
  simp only [Option.toList_some, Option.getD_some]
  congr 1
  by_cases e : keys[n] = key
  · simp [e]
  · simp [e]
theorem passed_yes {keys : List (List Nat)} {key : List Nat} {n : Nat} (h : n < keys.length) (e : (keys.getD n [] == key) = true) : passed keys key (n + 1) = passed keys key n := by
  rw [passed_step h, if_pos e, List.append_nil]
theorem passed_no {keys : List (List Nat)} {key : List Nat} {n : Nat} (h : n < keys.length) (e : (keys.getD n [] == key) = false) : passed keys key (n + 1) = passed keys key n ++ [keys.getD n []] := by
  rw [passed_step h, if_neg (by rw [e]; simp)]
theorem ins_form {w : World} {b : Nat} {v : Value} {l : List Nat} (h : Ins w b v l) (hl : l.length = 316) : ∃ o c, v = .slice (some ⟨b, o, none⟩) 316 c := by
  obtain ⟨a0, o0, c0, e, h0⟩ := h
  rw [hl] at e h0
  obtain ⟨e1, _⟩ := h0 0 (by omega)
  exact ⟨o0, c0, by rw [e, e1]⟩
theorem found_step {keys : List (List Nat)} {key : List Nat} {n : Nat} (h : n < keys.length) : ((keys.take (n + 1)).any fun a => a == key) = (((keys.take n).any fun a => a == key) || (keys.getD n [] == key)) := by
  rw [List.take_add_one, List.getElem?_eq_getElem h, List.any_append, List.getD, List.getElem?_eq_getElem h]
  simp
theorem krow_form {w : World} {B n : Nat} {v : Value} {xs : List Value} (h : w.ownsRow B 62 1 v n xs) : ∃ ao cap, v = .slice ao n cap := by
  rcases h.2 with ⟨h, h0⟩ | ⟨g, cap, cur, h, _⟩
  · exact ⟨none, 0, by rw [h, h0]⟩
  · exact ⟨_, _, h⟩
/-- Values that are keys, in memory. -/
def Kvs (w : World) (Z : List Nat) (vs : List Value) (ls : List (List Nat)) : Prop := vs.length = ls.length ∧ ∀ j, j < ls.length → ∃ bk, bk ∈ Z ∧ Ins w bk (vs.getD j undef) (ls.getD j [])
theorem Kvs.snoc {w : World} {Z : List Nat} {vs : List Value} {ls : List (List Nat)} {v : Value} {l : List Nat} {bk : Nat} (h : Kvs w Z vs ls) (hb : bk ∈ Z) (hi : Ins w bk v l) : Kvs w Z (vs ++ [v]) (ls ++ [l]) := by
  obtain ⟨h1, h2⟩ := h
  refine ⟨by simp [h1], fun j hj => ?_⟩
  by_cases hjl : j < ls.length
  · obtain ⟨b, hb', hi'⟩ := h2 j hjl
    refine ⟨b, hb', ?_⟩
    rw [List.getD, List.getElem?_append_left (by omega), List.getD, List.getElem?_append_left hjl]
    exact hi'
  · have e : j = ls.length := by simp at hj; omega
    subst e
    refine ⟨bk, hb, ?_⟩
    rw [List.getD, List.getElem?_append_right (by omega), List.getD, List.getElem?_append_right (by omega)]
    simpa [h1] using hi
theorem row_cap {w : World} {B n g cap z : Nat} {e : TypeId} {xs : List Value} (h : w.ownsRow B e z (.slice (some ⟨g, 0, none⟩) n cap) n xs) : n ≤ cap := by
  rcases h.2 with ⟨h, _⟩ | ⟨g', cap', cur, h, _, _, hc, _⟩
  · cases h
  · injection h with _ _ h; omega
/-- The list behind an asking, as it lies in its own row. -/
theorem kl_of_row {w : World} {B off : Nat} {v : Value} {Z : List Nat} {vs : List Value} {ls : List (List Nat)} (hrow : w.ownsRow B 62 1 v ls.length vs) (hk : Kvs w Z vs ls) (hoff : off ≤ ls.length) :
    ∀ g cap, v = .slice (some ⟨g, 0, none⟩) ls.length cap → ∀ cap', Kl w (g :: Z) (.slice (some ⟨g, off, none⟩) (ls.length - off) cap') (ls.drop off) := by
  intro g cap hv cap'
  rcases hrow.2 with ⟨e, _⟩ | ⟨g', cap2, cur, e, hBg, hh, _, _, _, ht⟩
  · rw [e] at hv; cases hv
  rw [e] at hv
  injection hv with e1
  injection e1 with e1
  injection e1 with e1
  subst e1
  refine ⟨_, cap', by rw [List.length_drop], fun i hi => ?_⟩
  rw [List.length_drop] at hi
  obtain ⟨bk, hb, hin⟩ := hk.2 (off + i) (by omega)
  refine ⟨g', off, vs.getD (off + i) undef, bk, rfl, List.mem_cons_self, lt_of hh, ?_, List.mem_cons_of_mem _ hb, ?_⟩
  · rw [cell_of hh]
    have e1 : (cur.toList.take (ls.length * 1))[off + i]? = vs[off + i]? := by rw [ht]
    rw [List.getElem?_take_of_lt (by omega)] at e1
    rw [← Array.getElem?_toList, e1]
    have := hk.1
    rw [List.getD, List.getElem?_eq_getElem (by omega)]
    rfl
  · have : (ls.drop off).getD i [] = ls.getD (off + i) [] := by rw [List.getD, List.getD, List.getElem?_drop]
    rw [this]
    exact hin
end Go.Proofs.YtjjjlilflbddoaaGreatDoor
namespace Go.Proofs.YtjjjlilflbddoaaGreatDoor
open Go.RowKit

theorem Kvs.fr {S : Nat → Prop} {w w' : World} {Z : List Nat} {vs : List Value} {ls : List (List Nat)} (h : Kvs w Z vs ls) (f : Fr S w w') (hs : ∀ k ∈ Z, ¬ S k) : Kvs w' Z vs ls :=
  ⟨h.1, fun j hj => by obtain ⟨bk, hb, hi⟩ := h.2 j hj; exact ⟨bk, hb, hi.fr f (hs bk hb)⟩⟩

/-- What an asking leaves. -/
def RAskP (rcb : Nat) (Z : List Nat) (r : Rf.Dec) (t : ByteArray) (key : List Nat) (w : World) (e : Ending) (w' : World) : Prop :=
  e = .returned (.tuple #[]) ∧ Fr (One rcb) w w' ∧ ∃ g kv', w.heap.size ≤ g ∧ g < w'.heap.size ∧ Rb w' rcb (r.ask key) t kv' ∧ Kl w' (g :: Z) kv' (r.ask key).keys

set_option maxRecDepth 100000 in
set_option maxHeartbeats 6400000 in
theorem rask_any (rcb : Nat) (Z : List Nat) (r : Rf.Dec) (t : ByteArray) (kv v : Value) (key : List Nat) (bk : Nat) (w : World) (hb : Rb w rcb r t kv) (hk : Kl w Z kv r.keys) (hkl : ∀ k ∈ r.keys, k.length = 316) (hn : r.keys.length ≤ 16) (hc : r.cache ≤ 16)
    (hm : r.made < 2 ^ 62) (hnz : rcb ∉ Z) (hi : Ins w bk v key) (hkey : key.length = 316) (hbk : bk ∈ Z) :
    Calls Tryz.prog 44 #[.pointer (some ⟨rcb, 0, none⟩), v] w (RAskP rcb Z r t key w) := by
  obtain ⟨i1, hi1, hz01, hz11, hz21⟩ := info_parts rinfoI
  obtain ⟨a, cap, rfl, hkc⟩ := hk
  have hrl := lt_of hb
  have HB := hide hb
  have HKC := hide hkc
  have HKL := hide hkl
  have HNZ := hide hnz
  have HI := hide hi
  have HKEY := hide hkey
  have HBK := hide hbk
  obtain ⟨vo, vc, rfl⟩ := ins_form hi hkey
  clear hkc hkl hnz hi hkey hbk hb
  go_enter Tryz.func44, Tryz.ntmps44
  go_wp2
  go_loopw [4, 5, 6] (fun lv fv iv wr => ∃ (k : Nat) (vs : List Value), k ≤ r.keys.length ∧ iv = .int .i64 k ∧ fv = .bool ((r.keys.take k).any fun a => a == key) ∧ Hid (wr.ownsRow w.heap.size 62 1 lv (passed r.keys key k).length vs) ∧ Hid (Kvs w Z vs (passed r.keys key k)) ∧ Hid (Fr No w wr)) (fun _ _ i _ => r.keys.length - (intOf i).toNat)
  case atStart => exact ⟨0, [], Nat.zero_le _, rfl, rfl, ⟨rfl, Or.inl ⟨rfl, rfl⟩⟩, ⟨rfl, fun j hj => by simp [passed] at hj⟩, Fr.refl _ _⟩
  case round =>
    obtain ⟨k, vs, hkn, rfl, rfl, HROW, HVS, HF⟩ := hrel
    have hbr := HB.out.fr HF.out (no_no _)
    have k1 := hbr.c1
    have k0 := hbr.c0
    have k2 := hbr.c2
    have f1 := hbr.fz 1
    have f2 := hbr.fz 2
    have hsz := HF.out.size
    obtain ⟨pl, hpl⟩ : ∃ pl, pl = (passed r.keys key k).length := ⟨_, rfl⟩
    have hpk : pl ≤ k := by rw [hpl]; unfold passed; exact Nat.le_trans (List.length_filter_le _ _) (by rw [List.length_take]; omega)
    rw [← hpl] at HROW
    have HPL := hide hpl
    clear hpl
    obtain ⟨ao, cp, rfl⟩ := krow_form HROW.out
    by_cases hlt : k < r.keys.length
    · obtain ⟨b, off, vk, bk', rfl, hbZ, hbl, hcell, hbkZ, hins⟩ := HKC.out k hlt
      have hcell := (HF.out.cell (p := ⟨b, off + k, none⟩) hbl (no_no _)).trans hcell
      have hlenk : (r.keys.getD k []).length = 316 := HKL.out _ (by rw [List.getD, List.getElem?_eq_getElem hlt]; exact List.getElem_mem hlt)
      obtain ⟨uo, uc, rfl⟩ := ins_form hins hlenk
      have HSM := hide (rsame_any bk' bk _ _ (r.keys.getD k []) key wr (hins.fr HF.out (no_no _)) (HI.out.fr HF.out (no_no _)) hlenk HKEY.out)
      have HFS := hide (found_step (key := key) hlt)
      have HPY := hide (fun e => passed_yes (key := key) hlt e)
      have HPN := hide (fun e => passed_no (key := key) hlt e)
      have HIN := hide hins
      have HBR := hide hbr
      obtain ⟨sb, hsb⟩ : ∃ sb, sb = (r.keys.getD k [] == key) := ⟨_, rfl⟩
      rw [← hsb] at HSM HFS
      have HSB := hide hsb
      clear hins hbr hsb
      obtain ⟨fb, hfb⟩ : ∃ fb, fb = ((r.keys.take k).any fun a => a == key) := ⟨_, rfl⟩
      rw [← hfb] at HFS ⊢
      clear hfb
      go_wp2_with fail
      refine HSM.out.mono ?_
      rintro e w1 ⟨rfl, hf1⟩
      have k1' := (hf1.cell (p := ⟨rcb, 1, none⟩) (by show rcb < _; omega) (no_no _)).trans k1
      have hcell' := (hf1.cell (p := ⟨b, off + k, none⟩) (by show b < _; omega) (no_no _)).trans hcell
      have HF1 := hide hf1
      have hs1 := hf1.size
      clear hf1 HSM
      cases sb with
      | true =>
        go_wp2_with fail
        refine ⟨⟨k + 1, vs, by omega, by go_num, by rw [HFS.out, Bool.or_true], ?_, ?_, HF.out.trans HF1.out⟩, by simp [intOf]; omega⟩
        · unfold Hid
          rw [HPY.out HSB.out.symm, ← HPL.out]
          exact ownsRow_fr HROW.out HF1.out (fun _ _ => no_no _)
        · unfold Hid
          rw [HPY.out HSB.out.symm]
          exact HVS.out
      | false =>
        go_wp2_with (at_builtin; refine wpList_append_lies _ rfl (.tmp 27) (.tmp 35) 41 rfl w.heap.size 62 i1 (.slice none 0 0) 1 24 Tryz.underlying41 hi1 hz01 hz11 hz21 rfl (by decide) (.slice ao pl cp) pl vs rfl ?hown ⟨w1.heap.size, 0, none⟩ 1 1 [.slice (some ⟨bk', uo, none⟩) 316 uc] rfl rfl ?hnews ?h1 (by decide) ?h63 ?hb ?hbase _ rfl ?hK)
        case hown => exact ownsRow_fr (S := No) HROW.out (HF1.out.trans ((Fr.refl _ _).alloc _)) (fun _ _ => no_no _)
        case hnews => first | exact (fun j u h => h) | intro j u hj; match j, hj with | 0, hj => simp at hj; subst hj; exact cell_of (alloc_at w1 _) 0
        case h1 => first | rfl | (intro u hu; simp at hu; subst hu; rfl)
        case h63 => unfold maxLen; omega
        case hb => omega
        case hbase => first | omega | (simp; omega)
        case hK =>
          intro g cap5 w5 hown5 hgrow5 hat5 hlt5
          have hf5 : Fr No w w5 := ((HF.out.trans HF1.out).alloc _).grown hgrow5 (fun k hk2 hk3 => by have := ownsRow_lt HROW.out hk2; omega)
          have HO5 := hide hown5
          have HF5 := hide hf5
          clear hown5 hgrow5 hat5 hf5
          go_wp2_with fail
          refine ⟨⟨k + 1, vs ++ [.slice (some ⟨bk', uo, none⟩) 316 uc], by omega, by go_num, by rw [HFS.out, Bool.or_false], ?_, ?_, HF5.out⟩, by simp [intOf]; omega⟩
          · unfold Hid
            rw [HPN.out HSB.out.symm]
            have := HO5.out
            simpa [HPL.out] using this
          · unfold Hid
            rw [HPN.out HSB.out.symm]
            exact HVS.out.snoc hbkZ HIN.out
    · have e : k = r.keys.length := by omega
      subst e
      rw [List.take_length]
      obtain ⟨hb0, hhb⟩ : ∃ hb0, hb0 = (r.keys.any fun a => a == key) := ⟨_, rfl⟩
      rw [← hhb]
      have hps : passed r.keys key r.keys.length = r.keys.filter fun a => !(a == key) := by unfold passed; rw [List.take_length]
      rw [hps] at HVS HPL
      have HHIT : Hid (r.hit key = hb0) := hhb.symm
      have HKV := hide (HVS.out.snoc HBK.out HI.out)
      have HLL : Hid (r.list key = (r.keys.filter fun a => !(a == key)) ++ [key]) := rfl
      rw [← HLL.out] at HKV
      have hll : (r.list key).length = pl + 1 := by rw [HLL.out, List.length_append, ← HPL.out]; rfl
      have HLN := hide hll
      clear hhb hps hll HVS
      have HBR := hide hbr
      clear hbr
      cases hb0 with
      | true =>
        have HR' : Hid (Rb wr rcb { r with made := r.made } t (.slice a r.keys.length cap)) := HBR.out
        have k0' := HR'.out.c0
        have HFW : Hid (Fr (One rcb) w wr) := (HF.out.of_no (T := One rcb)).trans (Fr.refl _ _)
        have hszW : wr.heap.size ≤ (wr).heap.size := (show Fr (One rcb) wr wr from (Fr.refl _ _)).size
        have HROW' : Hid ((wr).ownsRow w.heap.size 62 1 (.slice ao pl cp) pl vs) := ownsRow_fr HROW.out (show Fr (One rcb) wr wr from (Fr.refl _ _)) (fun g hg => one_ne (by have := ownsRow_lt HROW.out hg; omega))
        go_wp2_with (at_builtin; refine wpList_append_lies _ rfl (.tmp 46) (.tmp 48) 41 rfl w.heap.size 62 i1 (.slice none 0 0) 1 24 Tryz.underlying41 hi1 hz01 hz11 hz21 rfl (by decide) (.slice ao pl cp) pl vs rfl ?hown ⟨wr.heap.size, 0, none⟩ 1 1 [.slice (some ⟨bk, vo, none⟩) 316 vc] rfl rfl ?hnews ?h1 (by decide) ?h63 ?hb ?hbase _ rfl ?hK)
        case hown => exact ownsRow_fr (S := No) HROW'.out ((Fr.refl _ _).alloc _) (fun _ _ => no_no _)
        case hnews => first | exact (fun j u h => h) | intro j u hj; match j, hj with | 0, hj => simp at hj; subst hj; exact cell_of (alloc_at wr _) 0
        case h1 => first | rfl | (intro u hu; simp at hu; subst hu; rfl)
        case h63 => unfold maxLen; omega
        case hb => omega
        case hbase => first | omega | (simp; omega)
        case hK =>
          intro g cap5 w5 hown5 hgrow5 hat5 hlt5
          have hg5 : w.heap.size ≤ g := (ownsRow_lt hown5 rfl).1
          have hf5 : Fr (One rcb) w w5 := (HFW.out.alloc _).grown hgrow5 (fun k hk2 hk3 => by have := ownsRow_lt HROW.out hk2; omega)
          have hbr5 : Rb w5 rcb { r with made := r.made } t (.slice a r.keys.length cap) := HR'.out.fr (((Fr.refl (fun q => w.heap.size ≤ q) wr).alloc _).grown hgrow5 (fun k hk2 hk3 => (ownsRow_lt HROW.out hk2).1)) (by show ¬ w.heap.size ≤ rcb; omega)
          have q0 := hbr5.c0
          have q1 := hbr5.c1
          have fq1 := hbr5.fz 1
          have HO5 := hide hown5
          have HF5 := hide hf5
          have HB5 := hide hbr5
          clear hown5 hgrow5 hat5 hf5 hbr5
          have hg5l : g < w5.heap.size := (ownsRow_lt HO5.out rfl).2
          have hcap5 : pl + 1 ≤ cap5 := row_cap HO5.out
          have hfin : ∀ kv', Kl w5 (g :: Z) kv' ((r.list key).drop (pl + 1 - r.cache)) → RAskP rcb Z r t key w (.returned (.tuple #[])) (w5.setCell ⟨rcb, 1, none⟩ kv') := by
            intro kv' hkl'
            have hf1 := one_set rcb 1 w5 kv'
            refine ⟨rfl, HF5.out.trans hf1, g, kv', hg5, Nat.lt_of_lt_of_le hg5l hf1.size, (HB5.out.s1 kv').of (r.ask key) rfl (by show (if r.hit key then r.made else r.made + 1) = _; rw [HHIT.out]; rfl) rfl rfl rfl rfl rfl rfl rfl, ?_⟩
            show Kl _ (g :: Z) kv' ((r.list key).drop ((r.list key).length - r.cache))
            rw [HLN.out]
            refine hkl'.same hf1.size (fun k hk => ?_) (fun _ h => h)
            rcases List.mem_cons.1 hk with e | hk
            · exact set_other 1 kv' (by omega)
            · exact set_other 1 kv' (fun e => HNZ.out (e ▸ hk))
          have hkv5 : Kvs w5 Z (vs ++ [.slice (some ⟨bk, vo, none⟩) 316 vc]) (r.list key) := HKV.out.fr HF5.out (fun k hk => one_ne (fun e => HNZ.out (e ▸ hk)))
          have hro : w5.ownsRow w.heap.size 62 1 (.slice (some ⟨g, 0, none⟩) (r.list key).length cap5) (r.list key).length (vs ++ [.slice (some ⟨bk, vo, none⟩) 316 vc]) := by rw [HLN.out]; exact HO5.out
          have HKK := hide (fun off (ho : off ≤ (r.list key).length) cap' => kl_of_row hro hkv5 ho g cap5 rfl cap')
          have HFIN := hide hfin
          clear hfin hkv5 hro
          rw [HLN.out] at HKK
          by_cases hlen : r.cache < pl + 1
          · by_cases hcc : cap5 = pl + 1 - r.cache
            · go_wp2_with fail
              go_end0
              refine HFIN.out _ ⟨_, _, by rw [List.length_drop, HLN.out], fun i hi => ?_⟩
              rw [List.length_drop, HLN.out] at hi
              omega
            · go_wp2_with fail
              go_end0
              exact HFIN.out _ (HKK.out (pl + 1 - r.cache) (by omega) _)
          · go_wp2_with fail
            go_end0
            have h0 : pl + 1 - r.cache = 0 := by omega
            have := HKK.out 0 (by omega) cap5
            rw [← h0] at this
            exact HFIN.out _ (by rw [h0] at this ⊢; exact this)
      | false =>
        have HR' : Hid (Rb (wr.setCell ⟨rcb, 2, none⟩ (.int .i64 ((r.made : Int) + 1))) rcb { r with made := r.made + 1 } t (.slice a r.keys.length cap)) := HBR.out.s2 _ _ (by push_cast; rfl)
        have k0' := HR'.out.c0
        have HFW : Hid (Fr (One rcb) w (wr.setCell ⟨rcb, 2, none⟩ (.int .i64 ((r.made : Int) + 1)))) := (HF.out.of_no (T := One rcb)).trans (one_set rcb 2 wr _)
        have hszW : wr.heap.size ≤ ((wr.setCell ⟨rcb, 2, none⟩ (.int .i64 ((r.made : Int) + 1)))).heap.size := (show Fr (One rcb) wr (wr.setCell ⟨rcb, 2, none⟩ (.int .i64 ((r.made : Int) + 1))) from (one_set rcb 2 wr _)).size
        have HROW' : Hid (((wr.setCell ⟨rcb, 2, none⟩ (.int .i64 ((r.made : Int) + 1)))).ownsRow w.heap.size 62 1 (.slice ao pl cp) pl vs) := ownsRow_fr HROW.out (show Fr (One rcb) wr (wr.setCell ⟨rcb, 2, none⟩ (.int .i64 ((r.made : Int) + 1))) from (one_set rcb 2 wr _)) (fun g hg => one_ne (by have := ownsRow_lt HROW.out hg; omega))
        go_wp2_with (at_builtin; refine wpList_append_lies _ rfl (.tmp 46) (.tmp 48) 41 rfl w.heap.size 62 i1 (.slice none 0 0) 1 24 Tryz.underlying41 hi1 hz01 hz11 hz21 rfl (by decide) (.slice ao pl cp) pl vs rfl ?hown ⟨wr.heap.size, 0, none⟩ 1 1 [.slice (some ⟨bk, vo, none⟩) 316 vc] rfl rfl ?hnews ?h1 (by decide) ?h63 ?hb ?hbase _ rfl ?hK)
        case hown => exact ownsRow_fr (S := No) HROW'.out ((Fr.refl _ _).alloc _) (fun _ _ => no_no _)
        case h1 => first | rfl | (intro u hu; simp at hu; subst hu; rfl)
        case h63 => unfold maxLen; omega
        case hb => omega
        case hbase => first | omega | (simp; omega)
        case hK =>
          intro g cap5 w5 hown5 hgrow5 hat5 hlt5
          have hg5 : w.heap.size ≤ g := (ownsRow_lt hown5 rfl).1
          have hf5 : Fr (One rcb) w w5 := (HFW.out.alloc _).grown hgrow5 (fun k hk2 hk3 => by have := ownsRow_lt HROW.out hk2; omega)
          have hbr5 : Rb w5 rcb { r with made := (r.made + 1) } t (.slice a r.keys.length cap) := HR'.out.fr (((Fr.refl (fun q => w.heap.size ≤ q) (wr.setCell ⟨rcb, 2, none⟩ (.int .i64 ((r.made : Int) + 1)))).alloc _).grown hgrow5 (fun k hk2 hk3 => (ownsRow_lt HROW.out hk2).1)) (by show ¬ w.heap.size ≤ rcb; omega)
          have q0 := hbr5.c0
          have q1 := hbr5.c1
          have fq1 := hbr5.fz 1
          have HO5 := hide hown5
          have HF5 := hide hf5
          have HB5 := hide hbr5
          clear hown5 hgrow5 hat5 hf5 hbr5
          have hg5l : g < w5.heap.size := (ownsRow_lt HO5.out rfl).2
          have hcap5 : pl + 1 ≤ cap5 := row_cap HO5.out
          have hfin : ∀ kv', Kl w5 (g :: Z) kv' ((r.list key).drop (pl + 1 - r.cache)) → RAskP rcb Z r t key w (.returned (.tuple #[])) (w5.setCell ⟨rcb, 1, none⟩ kv') := by
            intro kv' hkl'
            have hf1 := one_set rcb 1 w5 kv'
            refine ⟨rfl, HF5.out.trans hf1, g, kv', hg5, Nat.lt_of_lt_of_le hg5l hf1.size, (HB5.out.s1 kv').of (r.ask key) rfl (by show (if r.hit key then r.made else r.made + 1) = _; rw [HHIT.out]; rfl) rfl rfl rfl rfl rfl rfl rfl, ?_⟩
            show Kl _ (g :: Z) kv' ((r.list key).drop ((r.list key).length - r.cache))
            rw [HLN.out]
            refine hkl'.same hf1.size (fun k hk => ?_) (fun _ h => h)
            rcases List.mem_cons.1 hk with e | hk
            · exact set_other 1 kv' (by omega)
            · exact set_other 1 kv' (fun e => HNZ.out (e ▸ hk))
          have hkv5 : Kvs w5 Z (vs ++ [.slice (some ⟨bk, vo, none⟩) 316 vc]) (r.list key) := HKV.out.fr HF5.out (fun k hk => one_ne (fun e => HNZ.out (e ▸ hk)))
          have hro : w5.ownsRow w.heap.size 62 1 (.slice (some ⟨g, 0, none⟩) (r.list key).length cap5) (r.list key).length (vs ++ [.slice (some ⟨bk, vo, none⟩) 316 vc]) := by rw [HLN.out]; exact HO5.out
          have HKK := hide (fun off (ho : off ≤ (r.list key).length) cap' => kl_of_row hro hkv5 ho g cap5 rfl cap')
          have HFIN := hide hfin
          clear hfin hkv5 hro
          rw [HLN.out] at HKK
          by_cases hlen : r.cache < pl + 1
          · by_cases hcc : cap5 = pl + 1 - r.cache
            · go_wp2_with fail
              go_end0
              refine HFIN.out _ ⟨_, _, by rw [List.length_drop, HLN.out], fun i hi => ?_⟩
              rw [List.length_drop, HLN.out] at hi
              omega
            · go_wp2_with fail
              go_end0
              exact HFIN.out _ (HKK.out (pl + 1 - r.cache) (by omega) _)
          · go_wp2_with fail
            go_end0
            have h0 : pl + 1 - r.cache = 0 := by omega
            have := HKK.out 0 (by omega) cap5
            rw [← h0] at this
            exact HFIN.out _ (by rw [h0] at this ⊢; exact this)
end Go.Proofs.YtjjjlilflbddoaaGreatDoor
namespace Go.Proofs.YtjjjlilflbddoaaGreatDoor
open Go.RowKit

theorem rnew_any (cache : Int) (w : World) :
    Calls Tryz.prog 10 #[.int .i64 cache] w fun e w' => e = .returned (.pointer (some ⟨w.heap.size, 0, none⟩)) ∧ RDec w' w.heap.size [] (Rf.Dec.new (clampN cache)) ∧ Fr No w w' ∧ w'.heap.size = w.heap.size + 1 := by
  have hfin : ∀ n : Nat, clampN cache = n → RDec (w.alloc (.cells #[.int .i64 n, .slice none 0 0, .int .i64 0, .bool false, .int .i64 0, .string ⟨#[]⟩, .int .i64 0, .bool false, .int .i64 0, .int .i64 0, .int .i64 0] 43)) w.heap.size [] (Rf.Dec.new (clampN cache)) := by
    intro n hn
    rw [hn]
    exact ⟨⟨⟨#[]⟩, .slice none 0 0, alloc_at w _, rfl, ⟨none, 0, rfl, fun i hi => absurd hi (Nat.not_lt_zero _)⟩⟩, fun z hz => by simp at hz, by simp⟩
  have HFIN := hide hfin
  clear hfin
  by_cases h0 : cache < 0
  · have e : clampN cache = 0 := by unfold clampN; omega
    have HE := hide e
    clear e
    go_enter Tryz.func10, Tryz.ntmps10
    go_wp2
    go_ret
    exact ⟨rfl, HFIN.out 0 HE.out, (Fr.refl _ _).alloc _, by simp⟩
  · by_cases h16 : 16 < cache
    · have e : clampN cache = 16 := by unfold clampN; omega
      have HE := hide e
      clear e
      go_enter Tryz.func10, Tryz.ntmps10
      go_wp2
      go_ret
      exact ⟨rfl, HFIN.out 16 HE.out, (Fr.refl _ _).alloc _, by simp⟩
    · obtain ⟨n, rfl⟩ : ∃ n : Nat, cache = n := ⟨cache.toNat, by omega⟩
      have e : clampN (n : Int) = n := by unfold clampN; omega
      have HE := hide e
      clear e
      go_enter Tryz.func10, Tryz.ntmps10
      go_wp2
      go_ret
      exact ⟨rfl, HFIN.out n HE.out, (Fr.refl _ _).alloc _, by simp⟩

theorem rbegin_no (rcb : Nat) (l : Int) (w : World) (h : l < 0 ∨ 6000 < l) :
    Calls Tryz.prog 24 #[.pointer (some ⟨rcb, 0, none⟩), .int .i64 l] w fun e w' => e = .returned (.int .i64 11) ∧ w' = w := by
  by_cases h0 : l < 0
  · go_enter Tryz.func24, Tryz.ntmps24
    go_wp2
    go_ret
    exact ⟨rfl, rfl⟩
  · have h1 : (6000 : Int) < l := by omega
    clear h
    go_enter Tryz.func24, Tryz.ntmps24
    go_wp2
    go_ret
    exact ⟨rfl, rfl⟩

set_option maxRecDepth 100000 in
set_option maxHeartbeats 1600000 in
theorem rbegin_yes (rcb : Nat) (Z : List Nat) (r : Rf.Dec) (l : Nat) (w : World) (hl : l ≤ 6000) (h : RDec w rcb Z r) :
    Calls Tryz.prog 24 #[.pointer (some ⟨rcb, 0, none⟩), .int .i64 l] w fun e w' => e = .returned (.int .i64 0) ∧ RDec w' rcb Z (r.begin l) ∧ Fr (One rcb) w w' := by
  have hl0 : ¬ (l : Int) < 0 := by omega
  have hl6 : ¬ (6000 : Int) < l := by omega
  obtain ⟨t, kv, hb, ht, hk⟩ := h.blk
  have a3 := hb.c3
  have g3 := hb.fz 3
  have h3 := hb.s3 true
  have a4 := h3.c4
  have g4 := h3.fz 4
  have h4 := h3.s4 (l : Int) l rfl
  have a5 := h4.c5
  have g5 := h4.fz 5
  have h5 := h4.s5 ⟨#[]⟩
  have a6 := h5.c6
  have g6 := h5.fz 6
  have h6 := h5.s6 0 0 rfl
  have a7 := h6.c7
  have g7 := h6.fz 7
  have h7 := h6.s7 false
  have a8 := h7.c8
  have g8 := h7.fz 8
  have h8 := h7.s8 0
  have a9 := h8.c9
  have g9 := h8.fz 9
  have h9 := h8.s9 0 0 rfl
  have a10 := h9.c10
  have g10 := h9.fz 10
  have h10 := h9.s10 0 0 rfl
  have HB := hide h10
  have HK := hide hk
  have H := hide h
  clear h h3 h4 h5 h6 h7 h8 h9 h10 hk ht hb
  go_enter Tryz.func24, Tryz.ntmps24
  go_wp2
  go_ret
  have hf : Fr (One rcb) w ((((((((w.setCell ⟨rcb, 3, none⟩ (.bool true)).setCell ⟨rcb, 4, none⟩ (.int .i64 l)).setCell ⟨rcb, 5, none⟩ (.string ⟨#[]⟩)).setCell ⟨rcb, 6, none⟩ (.int .i64 0)).setCell ⟨rcb, 7, none⟩ (.bool false)).setCell ⟨rcb, 8, none⟩ (.int .i64 0)).setCell ⟨rcb, 9, none⟩ (.int .i64 0)).setCell ⟨rcb, 10, none⟩ (.int .i64 0)) :=
    (((((((one_set rcb 3 w _).trans (one_set rcb 4 _ _)).trans (one_set rcb 5 _ _)).trans (one_set rcb 6 _ _)).trans (one_set rcb 7 _ _)).trans (one_set rcb 8 _ _)).trans (one_set rcb 9 _ _)).trans (one_set rcb 10 _ _)
  exact ⟨rfl, ⟨⟨⟨#[]⟩, kv, HB.out, rfl, HK.out.same hf.size (fun k hk => hf.block k (H.out.zlt k hk) (one_ne (fun e => H.out.nz (e ▸ hk)))) (fun _ h => h)⟩, fun z hz => Nat.lt_of_lt_of_le (H.out.zlt z hz) hf.size, H.out.nz⟩, hf⟩

set_option maxRecDepth 100000 in
set_option maxHeartbeats 800000 in
theorem rend_any (rcb : Nat) (r : Rf.Dec) (t : ByteArray) (kv : Value) (w : World) (h : Rb w rcb r t kv) :
    Calls Tryz.prog 28 #[.pointer (some ⟨rcb, 0, none⟩)] w fun e w' => e = .returned (.tuple #[.int .i64 r.ending.1, .int .i64 (r.ending.2 : Nat)]) ∧ Fr No w w' := by
  have c3 := h.c3
  have c6 := h.c6
  have c7 := h.c7
  have c8 := h.c8
  clear h
  cases h1 : r.begun with
  | false =>
    have he : r.ending = (0, 12) := by unfold Rf.Dec.ending; rw [if_pos h1]
    rw [h1] at c3
    rw [he]
    clear he h1
    go_enter Tryz.func28, Tryz.ntmps28
    go_wp2
    go_ret2
    exact ⟨rfl, Fr.refl _ _⟩
  | true =>
    by_cases h2 : r.err = 0
    · cases h3 : r.done with
      | false =>
        have he : r.ending = (0, 2) := by unfold Rf.Dec.ending; rw [if_neg (by rw [h1]; simp), if_neg (by rw [h2]; simp), if_pos h3]
        rw [h1] at c3
        rw [h2] at c6
        rw [h3] at c7
        rw [he]
        clear he h1 h2 h3
        go_enter Tryz.func28, Tryz.ntmps28
        go_wp2
        go_ret2
        exact ⟨rfl, Fr.refl _ _⟩
      | true =>
        have he : r.ending = (r.used, 0) := by unfold Rf.Dec.ending; rw [if_neg (by rw [h1]; simp), if_neg (by rw [h2]; simp), if_neg (by rw [h3]; simp)]
        rw [h1] at c3
        rw [h2] at c6
        rw [h3] at c7
        rw [he]
        clear he h1 h2 h3
        go_enter Tryz.func28, Tryz.ntmps28
        go_wp2
        go_ret2
        exact ⟨rfl, Fr.refl _ _⟩
    · have he : r.ending = (0, r.err) := by unfold Rf.Dec.ending; rw [if_neg (by rw [h1]; simp), if_pos h2]
      rw [h1] at c3
      rw [he]
      generalize r.err = k at *
      have hkb : ((k : Int) != 0) = true := by simp; omega
      clear he h1 h2
      go_enter Tryz.func28, Tryz.ntmps28
      go_wp2
      go_quiet (fail)
      go_wp2
      go_ret2
      exact ⟨rfl, (Fr.refl _ _).drewN _⟩
theorem rdrop_any (rcb : Nat) (Z : List Nat) (r : Rf.Dec) (w : World) (h : RDec w rcb Z r) :
    Calls Tryz.prog 30 #[.pointer (some ⟨rcb, 0, none⟩)] w fun e w' => e = .returned (.tuple #[]) ∧ RDec w' rcb Z r.drop ∧ Fr (One rcb) w w' := by
  obtain ⟨t, kv, hb, ht, hk⟩ := h.blk
  have c1 := hb.c1
  have f1 := hb.fz 1
  have HB := hide (hb.s1 (.slice none 0 0))
  have HT := hide ht
  have H := hide h
  clear hb ht hk h
  go_enter Tryz.func30, Tryz.ntmps30
  go_wp2
  go_end0
  have hf := one_set rcb 1 w (.slice none 0 0)
  exact ⟨rfl, ⟨⟨t, _, HB.out, HT.out, ⟨none, 0, rfl, fun i hi => absurd hi (Nat.not_lt_zero _)⟩⟩, fun z hz => Nat.lt_of_lt_of_le (H.out.zlt z hz) hf.size, H.out.nz⟩, hf⟩
end Go.Proofs.YtjjjlilflbddoaaGreatDoor
