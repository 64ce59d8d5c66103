import Derived.Test.YtjjjlilflbddoaaGreatDoorFAsk
import Derived.Test.YtjjjlilflbddoaaGreatDoorFTwo
namespace Go.Proofs.YtjjjlilflbddoaaGreatDoor
open Go.RowKit

namespace Rf
theorem Dec.asks_cons (x : Dec) (k : List Nat) (ks : List (List Nat)) : x.asks (k :: ks) = (x.ask k).asks ks := rfl
theorem Dec.asks_snoc (x : Dec) (ks : List (List Nat)) (k : List Nat) : x.asks (ks ++ [k]) = (x.asks ks).ask k := by unfold Dec.asks; rw [List.foldl_append]; rfl
/-- What askings leave as it was. -/
structure Kin (x y : Dec) : Prop where
  cache : y.cache = x.cache
  begun : y.begun = x.begun
  lim : y.lim = x.lim
  data : y.data = x.data
  err : y.err = x.err
  done : y.done = x.done
  used : y.used = x.used
  told : y.told = x.told
  asked : y.asked = x.asked
theorem Dec.asks_kin (ks : List (List Nat)) : ∀ x : Dec, Kin x (x.asks ks) := by
  induction ks with
  | nil => intro x; exact ⟨rfl, rfl, rfl, rfl, rfl, rfl, rfl, rfl, rfl⟩
  | cons k ks ih =>
    intro x
    have h := ih (x.ask k)
    exact ⟨h.cache, h.begun, h.lim, h.data, h.err, h.done, h.used, h.told, h.asked⟩
/-- Askings see only what is kept. -/
theorem Dec.asks_congr (ks : List (List Nat)) : ∀ x y : Dec, y.cache = x.cache → y.made = x.made → y.keys = x.keys → (y.asks ks).made = (x.asks ks).made ∧ (y.asks ks).keys = (x.asks ks).keys := by
  induction ks with
  | nil => intro x y _ h2 h3; exact ⟨h2, h3⟩
  | cons k ks ih =>
    intro x y h1 h2 h3
    refine ih (x.ask k) (y.ask k) h1 ?_ ?_
    · show (if y.hit k then y.made else y.made + 1) = if x.hit k then x.made else x.made + 1
      unfold Dec.hit
      rw [h2, h3]
    · show (y.list k).drop ((y.list k).length - y.cache) = (x.list k).drop ((x.list k).length - x.cache)
      unfold Dec.list
      rw [h1, h3]
/-- How much is kept and made. -/
structure Neat (x : Dec) : Prop where
  len : x.keys.length ≤ x.cache
  cache : x.cache ≤ 16
  klen : ∀ k ∈ x.keys, k.length = 316
theorem Neat.ask {x : Dec} {k : List Nat} (h : Neat x) (hk : k.length = 316) : Neat (x.ask k) := by
  refine ⟨?_, h.cache, fun a ha => ?_⟩
  · show ((x.list k).drop ((x.list k).length - x.cache)).length ≤ x.cache
    rw [List.length_drop]
    omega
  · have ha := List.mem_of_mem_drop (show a ∈ (x.list k).drop ((x.list k).length - x.cache) from ha)
    unfold Dec.list at ha
    rcases List.mem_append.1 ha with ha | ha
    · exact h.klen a (List.mem_filter.1 ha).1
    · rw [List.mem_singleton.1 ha]; exact hk
theorem Neat.asks {ks : List (List Nat)} : ∀ {x : Dec}, Neat x → (∀ k ∈ ks, k.length = 316) → Neat (x.asks ks) ∧ (x.asks ks).made ≤ x.made + ks.length := by
  induction ks with
  | nil => intro x h _; exact ⟨h, Nat.le_refl _⟩
  | cons k ks ih =>
    intro x h hk
    have h1 := ih (h.ask (hk k List.mem_cons_self)) (fun a ha => hk a (List.mem_cons_of_mem _ ha))
    refine ⟨h1.1, Nat.le_trans h1.2 ?_⟩
    have : (x.ask k).made ≤ x.made + 1 := by show (if x.hit k then x.made else x.made + 1) ≤ _; split <;> omega
    rw [List.length_cons]
    omega
end Rf

/-- How many bytes were begun, wherever it stands. -/
theorem rused_free (rb : Nat) (s : DS) (w : World) (hr : Da w rb s) :
    Calls Tryz.prog 22 #[.pointer (some ⟨rb, 0, none⟩)] w fun e w' => ∃ z : Int, e = .returned (.int .i64 z) ∧ w' = w := by
  have h1 := hr.c1
  clear hr
  generalize (s.pos : Int) = p at *
  go_enter Tryz.func22, Tryz.ntmps22
  go_wp2
  go_ret
  exact ⟨_, rfl, rfl⟩
/-- What was put out from a place on, as a string. -/
theorem rconv_from {B rb k : Nat} {K : List Nat} {d : List UInt8} {lim : Nat} {x : Rf.D} {w : World} {s : DS} (h : RL B rb K d lim x w s) (hk : k ≤ x.out.length) (g cap : Nat) (hv : s.ov = .slice (some ⟨g, 0, none⟩) x.out.length cap) (w' : World) (f : Fr (One rb) w w') :
    ∀ off c, (∀ j, j < (x.out.drop k).length → off + j = k + j) → (convert 61 9 (.slice (some ⟨g, off, none⟩) (x.out.drop k).length c)).run Tryz.prog w' = .ok (.string ⟨(x.out.drop k).toArray⟩) w' := by
  intro off c hoff
  obtain ⟨ks, hrw, _⟩ := h.rows
  refine run_convert_bytes_back w' 61 9 5 ⟨g, off, none⟩ c (x.out.drop k) Tryz.underlying61 Tryz.underlying5 Tryz.underlying9 (fun j hj => ?_)
  have hj2 : k + j < x.out.length := by rw [List.length_drop] at hj; omega
  obtain ⟨g', cap', hv', hc⟩ := h.byte hj2
  rw [hv] at hv'
  injection hv' with e1
  injection e1 with e2
  injection e2 with e3
  subst e3
  have e4 : (⟨g, off, none⟩ : Addr).add j = ⟨g, k + j, none⟩ := by
    have := hoff j hj
    simp only [Addr.add]; split <;> simp_all
  have hgl := ownsRow_lt (hrw.row 0) (b := g) (by rw [show s.row 0 = s.ov from rfl, hv]; rfl)
  have hgf := hrw.far 0 g (by rw [show s.row 0 = s.ov from rfl, hv]; rfl)
  rw [e4, f.cell (p := ⟨g, k + j, none⟩) hgl.2 (one_ne hgf.1), hc]
  simp [List.getD, hj2, List.getElem_drop]
end Go.Proofs.YtjjjlilflbddoaaGreatDoor
namespace Go.Proofs.YtjjjlilflbddoaaGreatDoor
open Go.RowKit

/-- What a feeding leaves; u: how many bytes were begun. -/
def RFeedP (rcb : Nat) (Z : List Nat) (r : Rf.Dec) (p : List UInt8) (w : World) (e : Ending) (w' : World) : Prop :=
  ∃ u : Int, ((Rf.read (r.data ++ p) r.lim).2 = true → u = (((Rf.read (r.data ++ p) r.lim).1.pos + 7) / 8 : Nat)) ∧
    e = .returned (.tuple #[.string ⟨(r.feed p u).2.1.toArray⟩, .int .i64 ((r.feed p u).2.2 : Nat)]) ∧ Fr (One rcb) w w' ∧ ∃ G, (∀ g ∈ G, w.heap.size ≤ g ∧ g < w'.heap.size) ∧ RDec w' rcb (G ++ Z) (r.feed p u).1
theorem usedOf (r : Rf.Dec) (p : List UInt8) : ∃ u : Int, (Rf.read (r.data ++ p) r.lim).2 = true → u = (((Rf.read (r.data ++ p) r.lim).1.pos + 7) / 8 : Nat) := ⟨_, fun _ => rfl⟩

set_option maxRecDepth 100000 in
set_option maxHeartbeats 1600000 in
/-- Nothing was begun, or it has ended. -/
theorem rfeed_off (rcb : Nat) (Z : List Nat) (r : Rf.Dec) (t : ByteArray) (w : World) (h : RDec w rcb Z r) (ho : r.begun = false ∨ r.done = true ∨ r.err ≠ 0) :
    Calls Tryz.prog 26 #[.pointer (some ⟨rcb, 0, none⟩), .string t] w (RFeedP rcb Z r t.data.toList w) := by
  obtain ⟨u, hu⟩ := usedOf r t.data.toList
  have hf : ∀ w', Fr (One rcb) w w' → RDec w' rcb Z r → RFeedP rcb Z r t.data.toList w (.returned (.tuple #[.string ⟨#[]⟩, .int .i64 12])) w' := by
    intro w' f h'
    have e : r.feed t.data.toList u = (r, [], 12) := by unfold Rf.Dec.feed; rw [if_pos ho]
    exact ⟨u, hu, by rw [e]; rfl, f, [], fun g hg => by simp at hg, by rw [e]; exact h'⟩
  have HF := hide (hf w (Fr.refl _ _) h)
  obtain ⟨t0, kv0, hb, ht0, hkl⟩ := h.blk
  have c3 := hb.c3
  have c6 := hb.c6
  have c7 := hb.c7
  clear hf hb ht0 hkl hu h
  cases h1 : r.begun with
  | false =>
    rw [h1] at c3
    clear ho h1
    go_enter Tryz.func26, Tryz.ntmps26
    go_wp2
    go_ret2
    exact HF.out
  | true =>
    rw [h1] at c3
    cases h2 : r.done with
    | true =>
      rw [h2] at c7
      clear ho h1 h2
      go_enter Tryz.func26, Tryz.ntmps26
      go_wp2
      go_ret2
      exact HF.out
    | false =>
      rw [h2] at c7
      have h3 : r.err ≠ 0 := by
        rcases ho with h | h | h
        · rw [h1] at h; cases h
        · rw [h2] at h; cases h
        · exact h
      generalize r.err = k at *
      have hkb : ((k : Int) != 0) = true := by simp; omega
      clear ho h1 h2 h3
      go_enter Tryz.func26, Tryz.ntmps26
      go_wp2
      go_ret2
      exact HF.out

set_option maxRecDepth 100000 in
set_option maxHeartbeats 1600000 in
/-- Too much data. -/
theorem rfeed_long (rcb : Nat) (Z : List Nat) (r : Rf.Dec) (t : ByteArray) (w : World) (h : RDec w rcb Z r) (h1 : r.begun = true) (h2 : r.done = false) (h3 : r.err = 0) (hd : r.data.length ≤ 4000) (ht : t.size < 2 ^ 62) (hl : 4000 < (r.data ++ t.data.toList).length) :
    Calls Tryz.prog 26 #[.pointer (some ⟨rcb, 0, none⟩), .string t] w (RFeedP rcb Z r t.data.toList w) := by
  obtain ⟨u, hu⟩ := usedOf r t.data.toList
  have hf : ∀ w', Fr (One rcb) w w' → RDec w' rcb Z { r with err := 1 } → RFeedP rcb Z r t.data.toList w (.returned (.tuple #[.string ⟨#[]⟩, .int .i64 1])) w' := by
    intro w' f h'
    have e : r.feed t.data.toList u = ({ r with err := 1 }, [], 1) := by unfold Rf.Dec.feed; rw [if_neg (by rw [h1, h2, h3]; simp), if_pos hl]
    exact ⟨u, hu, by rw [e]; rfl, f, [], fun g hg => by simp at hg, by rw [e]; exact h'⟩
  obtain ⟨t0, kv0, hb, ht0, hkl⟩ := h.blk
  have hs0 : t0.size = r.data.length := by rw [← ht0]; simp
  have hs1 : t.data.toList.length = t.size := by simp
  have hgt : 4000 < t0.size + t.size := by rw [List.length_append] at hl; omega
  have hs04 : t0.size ≤ 4000 := by omega
  have c3 := hb.c3
  have c5 := hb.c5
  have c6 := hb.c6
  have c7 := hb.c7
  have f6 := hb.fz 6
  rw [h1] at c3
  rw [h2] at c7
  rw [h3] at c6
  have HB := hide (hb.s6 1 1 rfl)
  have HK := hide hkl
  have HF := hide hf
  have HT := hide ht0
  have H := hide h
  clear hf hb ht0 hkl hu h hs0 hs1 hl h1 h2 h3 hd
  go_enter Tryz.func26, Tryz.ntmps26
  go_wp2
  go_ret2
  have hf1 := one_set rcb 6 w (.int .i64 1)
  refine HF.out _ hf1 ⟨⟨t0, kv0, HB.out, HT.out, HK.out.same hf1.size (fun k hk => set_other 6 _ (fun e => H.out.nz (e ▸ hk))) (fun _ h => h)⟩, fun z hz => Nat.lt_of_lt_of_le (H.out.zlt z hz) hf1.size, H.out.nz⟩
end Go.Proofs.YtjjjlilflbddoaaGreatDoor
namespace Go.Proofs.YtjjjlilflbddoaaGreatDoor
open Go.RowKit

theorem join_toList (a b : ByteArray) : (a ++ b).data.toList = a.data.toList ++ b.data.toList := by simp
theorem join_size (a b : ByteArray) : (a ++ b).size = a.size + b.size := by simp
/-- What was put out, sliced from a place on. -/
def SliceFrom (ov SV : Value) (n k : Nat) : Prop :=
  (ov = .slice none 0 0 ∧ n = 0 ∧ k = 0 ∧ SV = .slice none 0 0) ∨ (∃ g cap, ov = .slice (some ⟨g, 0, none⟩) n cap ∧ n ≤ cap ∧ cap = k ∧ SV = .slice (some ⟨g, 0, none⟩) (n - k) (cap - k)) ∨
  ∃ g cap, ov = .slice (some ⟨g, 0, none⟩) n cap ∧ n ≤ cap ∧ cap ≠ k ∧ SV = .slice (some ⟨g, k, none⟩) (n - k) (cap - k)
theorem slice_from {w : World} {B n : Nat} {ov : Value} {xs : List Value} (h : w.ownsRow B 5 1 ov n xs) (k : Nat) (hk : k ≤ n) : ∃ SV, SliceFrom ov SV n k := by
  rcases h.2 with ⟨h1, h0⟩ | ⟨g, cap, cur, h1, _, _, hc, _⟩
  · exact ⟨_, .inl ⟨h1, h0, by omega, rfl⟩⟩
  · by_cases e : cap = k
    · exact ⟨_, .inr (.inl ⟨g, cap, h1, hc, e, rfl⟩)⟩
    · exact ⟨_, .inr (.inr ⟨g, cap, h1, hc, e, rfl⟩)⟩
theorem slice_eq {ao : Option Addr} {n ocap k : Nat} {SV : Value} (h : SliceFrom (.slice ao n ocap) SV n k) : Value.slice (if ocap = k then ao else Option.map (fun x => x.add k) ao) (n - k) (ocap - k) = SV := by
  rcases h with ⟨e1, e2, e3, rfl⟩ | ⟨g, cap, e1, e2, e3, rfl⟩ | ⟨g, cap, e1, e2, e3, rfl⟩
  · injection e1 with e4 e5 e6
    subst e4
    subst e6
    subst e3
    subst e5
    rfl
  · injection e1 with e4 e5 e6
    subst e4
    subst e6
    rw [if_pos e3]
  · injection e1 with e4 e5 e6
    subst e4
    subst e6
    rw [if_neg e3]
    have e7 : (⟨g, 0, none⟩ : Addr).add k = ⟨g, k, none⟩ := by simp only [Addr.add]; split <;> simp_all
    show Value.slice (some ((⟨g, 0, none⟩ : Addr).add k)) _ _ = _
    rw [e7]
theorem conv_from {B rb k : Nat} {K : List Nat} {d : List UInt8} {lim : Nat} {x : Rf.D} {w : World} {s : DS} {SV : Value} (h : RL B rb K d lim x w s) (hk : k ≤ x.out.length) (hS : SliceFrom s.ov SV x.out.length k) (w' : World) (f : Fr (One rb) w w') :
    (convert 61 9 SV).run Tryz.prog w' = .ok (.string ⟨(x.out.drop k).toArray⟩) w' := by
  rcases hS with ⟨h1, h0, hk0, rfl⟩ | ⟨g, cap, h1, hc, e, rfl⟩ | ⟨g, cap, h1, hc, e, rfl⟩
  · have e : x.out = [] := List.length_eq_zero_iff.1 h0
    rw [e, run_convert_bytes_string w' 61 9 5 none 0 0 Tryz.underlying61 Tryz.underlying5 Tryz.underlying9]
    subst hk0
    rfl
  · have := rconv_from h hk g cap h1 w' f 0 (cap - k) (fun j hj => by rw [List.length_drop] at hj; omega)
    rw [List.length_drop] at this
    exact this
  · have := rconv_from h hk g cap h1 w' f k (cap - k) (fun j hj => rfl)
    rw [List.length_drop] at this
    exact this

/-- The keys that were read, in memory. -/
def Kread (w : World) (K : List Nat) (kv : Value) (keys : List (List Nat)) : Prop :=
  ∃ a cap, kv = .slice a keys.length cap ∧ ∀ i, i < keys.length → ∃ g v bk, a = some ⟨g, 0, none⟩ ∧ g < w.heap.size ∧ w.cell? ⟨g, i, none⟩ = some v ∧ bk ∈ K ∧ Ins w bk v (keys.getD i [])
theorem kread_of {B rb : Nat} {K : List Nat} {d : List UInt8} {lim : Nat} {x : Rf.D} {w w' : World} {s : DS} (h : RL B rb K d lim x w s) (f : Fr (One rb) w w') : Kread w' K s.kv x.keys := by
  obtain ⟨ks, hrw, hks⟩ := h.rows
  have hrow : w.ownsRow B 62 1 s.kv x.keys.length ks := hrw.row 1
  rcases hrow.2 with ⟨h1, h0⟩ | ⟨g, cap, cur, h1, _, hh, _, _, _, ht⟩
  · exact ⟨none, 0, by rw [h1, h0], fun i hi => by omega⟩
  · refine ⟨_, cap, h1, fun i hi => ?_⟩
    obtain ⟨bk, hb, hin⟩ := hks i hi
    have hgf := hrw.far 1 g (by rw [show s.row 1 = s.kv from rfl, h1]; rfl)
    refine ⟨g, ks.getD i undef, bk, rfl, Nat.lt_of_lt_of_le (lt_of hh) f.size, ?_, hb, hin.fr f (one_ne (h.ne hb))⟩
    rw [f.cell (p := ⟨g, i, none⟩) (lt_of hh) (one_ne hgf.1), cell_of hh]
    have e1 : (cur.toList.take (x.keys.length * 1))[i]? = ks[i]? := by rw [ht]
    rw [List.getElem?_take_of_lt (by omega)] at e1
    have hl := hrow.1
    rw [← Array.getElem?_toList, e1, List.getD, List.getElem?_eq_getElem (by omega)]
    rfl
theorem Kread.fr {S : Nat → Prop} {w w' : World} {K : List Nat} {kv : Value} {keys : List (List Nat)} (h : Kread w K kv keys) (f : Fr S w w') (hs : ∀ k ∈ K, ¬ S k) (hg : ∀ g, kv.ownBlock = some g → ¬ S g) : Kread w' K kv keys := by
  obtain ⟨a, cap, rfl, hc⟩ := h
  refine ⟨a, cap, rfl, fun i hi => ?_⟩
  obtain ⟨g, v, bk, rfl, h2, h3, h4, h5⟩ := hc i hi
  exact ⟨g, v, bk, rfl, Nat.lt_of_lt_of_le h2 f.size, (f.cell (p := ⟨g, i, none⟩) h2 (hg g rfl)).trans h3, h4, h5.fr f (hs bk h4)⟩

/-- Where the askings of a piece stand ahead of the key j. -/
structure AskAt (rcb : Nat) (Zk : List Nat) (r1 : Rf.Dec) (tt : ByteArray) (ks : List (List Nat)) (w3 : World) (j : Nat) (wr : World) : Prop where
  at_ : ∃ kv G, Rb wr rcb (r1.asks (ks.take j)) tt kv ∧ Kl wr (G ++ Zk) kv (r1.asks (ks.take j)).keys ∧ ∀ g ∈ G, w3.heap.size ≤ g ∧ g < wr.heap.size
  fr : Fr (One rcb) w3 wr
/-- One asking. -/
theorem AskAt.next {rcb : Nat} {Zk : List Nat} {r1 : Rf.Dec} {tt : ByteArray} {ks : List (List Nat)} {w3 wr : World} {j : Nat} {v : Value} {bk : Nat} (h : AskAt rcb Zk r1 tt ks w3 j wr) (hj : j < ks.length) (hN : Rf.Neat r1) (hks : ∀ k ∈ ks, k.length = 316)
    (hm : r1.made + ks.length < 2 ^ 62) (hnz : rcb ∉ Zk) (hr : rcb < w3.heap.size) (hi : Ins wr bk v (ks.getD j [])) (hbk : bk ∈ Zk) :
    Calls Tryz.prog 44 #[.pointer (some ⟨rcb, 0, none⟩), v] wr fun e w' => e = .returned (.tuple #[]) ∧ AskAt rcb Zk r1 tt ks w3 (j + 1) w' := by
  obtain ⟨⟨kv, G, hb, hkl, hG⟩, hf⟩ := h
  have hkj : ks.getD j [] ∈ ks := by rw [List.getD, List.getElem?_eq_getElem hj]; exact List.getElem_mem hj
  have hn := hN.asks (ks := ks.take j) (fun k hk => hks k (List.mem_of_mem_take hk))
  have hl : (ks.take j).length ≤ ks.length := by rw [List.length_take]; omega
  have hc := hn.1.cache
  have hlen := hn.1.len
  have e : ks.take (j + 1) = ks.take j ++ [ks.getD j []] := by
    rw [List.take_add_one, List.getD, List.getElem?_eq_getElem hj]; rfl
  refine (rask_any rcb (G ++ Zk) (r1.asks (ks.take j)) tt kv v (ks.getD j []) bk wr hb hkl hn.1.klen (by omega) hc (by have := hn.2; omega) (fun hm => ?_) hi (hks _ hkj) (List.mem_append.2 (.inr hbk))).mono ?_
  · rcases List.mem_append.1 hm with hm | hm
    · have := (hG _ hm).1; omega
    · exact hnz hm
  · rintro e' w' ⟨rfl, f, g, kv', h1, h2, h3, h4⟩
    refine ⟨rfl, ⟨kv', g :: G, ?_, ?_, fun q hq => ?_⟩, hf.trans f⟩
    · rw [e, Rf.Dec.asks_snoc]; exact h3
    · rw [e, Rf.Dec.asks_snoc]; exact h4
    · rcases List.mem_cons.1 hq with rfl | hq
      · exact ⟨Nat.le_trans hf.size h1, h2⟩
      · exact ⟨(hG q hq).1, Nat.lt_of_lt_of_le (hG q hq).2 f.size⟩
end Go.Proofs.YtjjjlilflbddoaaGreatDoor
namespace Go.Proofs.YtjjjlilflbddoaaGreatDoor
open Go.RowKit

theorem RFeedP.drewN {rcb : Nat} {Z : List Nat} {r : Rf.Dec} {p : List UInt8} {w w' : World} {e : Ending} (h : RFeedP rcb Z r p w e w') (k : Nat) : RFeedP rcb Z r p w e (w'.drewN k) := by
  obtain ⟨u, hu, he, f, G, hG, hR⟩ := h
  exact ⟨u, hu, he, f.drewN k, G, hG, hR.same (Nat.le_refl _) (fun _ _ => rfl)⟩

set_option maxRecDepth 100000 in
set_option maxHeartbeats 8000000 in
theorem rfeed_on (rcb : Nat) (Z : List Nat) (r : Rf.Dec) (t : ByteArray) (w : World) (h : RDec w rcb Z r) (h1 : r.begun = true) (h2 : r.done = false) (h3 : r.err = 0) (hl : (r.data ++ t.data.toList).length ≤ 4000) (hlim : r.lim ≤ 6000)
    (hO : OrdAt w) (hG : 11 < w.heap.size) (hro : rcb ≠ 11) (hN : Rf.Neat r) (htold : r.told ≤ (Rf.read (r.data ++ t.data.toList) r.lim).1.out.length)
    (hkl : ∀ k ∈ (Rf.read (r.data ++ t.data.toList) r.lim).1.keys, k.length = 316) (hask : ((Rf.read (r.data ++ t.data.toList) r.lim).1.keys.drop r.asked).length ≤ 32000) (hal : r.asked ≤ 100000) (hmd : r.made + 32000 < 2 ^ 62) (hst : (Rf.read (r.data ++ t.data.toList) r.lim).2 = true → (Rf.read (r.data ++ t.data.toList) r.lim).1.st = 0) :
    Calls Tryz.prog 26 #[.pointer (some ⟨rcb, 0, none⟩), .string t] w (RFeedP rcb Z r t.data.toList w) := by
  obtain ⟨t0, kv0, hb, ht0, hkk⟩ := h.blk
  have hrl := lt_of hb
  have hs1 : t.data.toList.length = t.size := by simp
  have hs0 : t0.data.toList.length = t0.size := by simp
  have hle : ¬ (4000 : Int) < t0.size + t.size := by rw [← ht0, List.length_append] at hl; omega
  have hjl : (t0 ++ t).data.toList = r.data ++ t.data.toList := by rw [join_toList, ht0]
  have hjs : (t0 ++ t).size ≤ 4000 := by rw [join_size]; rw [← ht0, List.length_append] at hl; omega
  obtain ⟨tt, htt⟩ : ∃ tt, tt = t0 ++ t := ⟨_, rfl⟩
  rw [← htt] at hjl hjs
  have hf1 := one_set rcb 5 w (.string tt)
  have hb1 := hb.s5 tt
  obtain ⟨w1, hw1⟩ : ∃ w1, w1 = w.setCell ⟨rcb, 5, none⟩ (.string tt) := ⟨_, rfl⟩
  rw [← hw1] at hf1 hb1
  have hsz1 : w1.heap.size = w.heap.size := by rw [hw1]; simp
  have hfin : ∀ (u : Int) (w' : World), ((Rf.read (r.data ++ t.data.toList) r.lim).2 = true → u = (((Rf.read (r.data ++ t.data.toList) r.lim).1.pos + 7) / 8 : Nat)) → Fr (One rcb) w w' → (∃ G, (∀ g ∈ G, w.heap.size ≤ g ∧ g < w'.heap.size) ∧ RDec w' rcb (G ++ Z) (r.fed t.data.toList (Rf.read (r.data ++ t.data.toList) r.lim) u)) →
      RFeedP rcb Z r t.data.toList w (.returned (.tuple #[.string ⟨((Rf.read (r.data ++ t.data.toList) r.lim).1.out.drop r.told).toArray⟩, .int .i64 (Rf.erOf (Rf.read (r.data ++ t.data.toList) r.lim).1.st : Nat)])) w' := by
    intro u w' hu f hG
    have e : r.feed t.data.toList u = (r.fed t.data.toList (Rf.read (r.data ++ t.data.toList) r.lim) u, (Rf.read (r.data ++ t.data.toList) r.lim).1.out.drop r.told, Rf.erOf (Rf.read (r.data ++ t.data.toList) r.lim).1.st) := by
      unfold Rf.Dec.feed; rw [if_neg (by rw [h1, h2, h3]; simp), if_neg (by omega)]
    exact ⟨u, hu, by rw [e], f, by rw [e]; exact hG⟩
  have hrd := rread_any tt r.lim (World.drew w1) (hO.fr (hf1.drew) (fun e => hro e.symm) hG) (by show _ < w1.heap.size; omega) hjs hlim (fun p k h => lens_bad h)
  rw [hjl] at hrd
  obtain ⟨rb, hrb⟩ : ∃ rb, rb = w.heap.size := ⟨_, rfl⟩
  have hrd' : Calls Tryz.prog 21 #[.string tt, .int .i64 r.lim] (World.drew w1) fun e w' => e = .returned (.pointer (some ⟨rb, 0, none⟩)) ∧ Fr No (World.drew w1) w' ∧ ∃ K s1 w0, RL rb rb K (r.data ++ t.data.toList) r.lim (Rf.read (r.data ++ t.data.toList) r.lim).1 w0 s1 ∧ Da w' rb { s1 with dn := (Rf.read (r.data ++ t.data.toList) r.lim).2 } ∧ Fr (One rb) w0 w' := by
    rw [hrb, ← hsz1]; exact hrd
  clear hrd
  have hrbgt : rcb < rb := by omega
  have HRB := hide hrb
  clear hrb
  generalize Rf.read (r.data ++ t.data.toList) r.lim = R at *
  obtain ⟨Y, dn⟩ := R
  change dn = true → Y.st = 0 at hst
  change r.told ≤ Y.out.length at htold
  change ∀ k ∈ Y.keys, k.length = 316 at hkl
  change (Y.keys.drop r.asked).length ≤ 32000 at hask
  have c3 := hb.c3
  have c5 := hb.c5
  have c6 := hb.c6
  have c7 := hb.c7
  have f5 := hb.fz 5
  rw [h1] at c3
  rw [h2] at c7
  rw [h3] at c6
  have d4 := hb1.c4
  have d5 := hb1.c5
  have HW1 := hide hw1
  have HTT := hide htt
  have HB1 := hide hb1
  have HF1 := hide hf1
  have HFIN := hide hfin
  have HRD := hide hrd'
  have HK := hide hkk
  have H := hide h
  have HN := hide hN
  have HKL := hide hkl
  have HASK := hide hask
  have HST := hide hst
  have HL4 := hide hl
  have HJL := hide hjl
  have HSZ1 := hide hsz1
  have HH1 := hide h1
  have HH2 := hide h2
  have HH3 := hide h3
  clear hw1 htt hb1 hf1 hfin hrd' hkk h hN hkl hask hjl hb ht0 hs0 hs1 hl hO hjs h1 h2 h3 hsz1 hst
  go_enter Tryz.func26, Tryz.ntmps26
  go_wp2_with fail
  rw [← HTT.out, ← HW1.out]
  refine wp_region_held (S := fun W => W.cell? ⟨rcb, 5, none⟩ = some (.string tt) ∧ W.cell? ⟨rcb, 4, none⟩ = some (.int .i64 r.lim)) (by kernel_rfl) ?_
  change wpAnyH _ _ _ _ _ _ _ _ (World.drew _)
  have hS0 : (World.drew w1).cell? ⟨rcb, 5, none⟩ = some (.string tt) ∧ (World.drew w1).cell? ⟨rcb, 4, none⟩ = some (.int .i64 r.lim) := ⟨d5, d4⟩
  refine wpAnyH_take (i := 0) (v := ?_) rfl (by kernel_rfl) (by kernel_rfl) (by kernel_rfl) (fun _ _ _ h => h) (Or.inl ⟨by rfl, by intro w _; go_simp; with_reducible rfl⟩) hS0 ?_
  refine wpAnyH_take (i := 1) (v := ?_) rfl (by kernel_rfl) (by kernel_rfl) (by kernel_rfl) (fun _ _ _ h => h) (Or.inl ⟨by rfl, by intro w _; go_simp; with_reducible rfl⟩) hS0 ?_
  refine wpAnyH_take (i := 2) (v := ?_) rfl (by kernel_rfl) (by kernel_rfl) (by kernel_rfl) (fun _ _ _ h => h) (Or.inl ⟨by rfl, by intro w _; go_simp; with_reducible rfl⟩) hS0 ?_
  refine wpAnyH_take (i := 3) (v := .string tt) rfl (by kernel_rfl) (by kernel_rfl) (by kernel_rfl) (fun _ _ _ h => h) (Or.inl ⟨by rfl, by intro w h; have h := h.1; go_simp⟩) hS0 ?_
  refine wpAnyH_take (i := 4) (v := ?_) rfl (by kernel_rfl) (by kernel_rfl) (by kernel_rfl) (fun _ _ _ h => h) (Or.inl ⟨by rfl, by intro w _; go_simp; with_reducible rfl⟩) hS0 ?_
  refine wpAnyH_take (i := 5) (v := ?_) rfl (by kernel_rfl) (by kernel_rfl) (by kernel_rfl) (fun _ _ _ h => h) (Or.inl ⟨by rfl, by intro w _; go_simp; with_reducible rfl⟩) hS0 ?_
  refine wpAnyH_take (i := 6) (v := ?_) rfl (by kernel_rfl) (by kernel_rfl) (by kernel_rfl) (fun _ _ _ h => h) (Or.inl ⟨by rfl, by intro w _; go_simp; with_reducible rfl⟩) hS0 ?_
  refine wpAnyH_take (i := 7) (v := .int .i64 r.lim) rfl (by kernel_rfl) (by kernel_rfl) (by kernel_rfl) (fun _ _ _ h => h) (Or.inl ⟨by rfl, by intro w h; have h := h.2; go_simp⟩) hS0 ?_
  refine wpAnyH_one (i := 8) (by kernel_rfl) rfl rfl (fun K'' hK' => ?_)
  go_simp
  refine HRD.out.mono ?_
  rintro e w2 ⟨rfl, hf2, K, s1, w0, hL, hda, hf02⟩
  have hf2 : Fr No w1 w2 := ((Fr.refl No w1).drew).trans hf2
  have hL : RL rb rb K (r.data ++ t.data.toList) r.lim Y w0 s1 := hL
  have hda : Da w2 rb { s1 with dn := dn } := hda
  have hr1 : rcb < w1.heap.size := by rw [HSZ1.out]; exact hrl
  have hb2 : Rb w2 rcb r tt kv0 := HB1.out.fr hf2 (no_no _)
  refine hK' _ _ ⟨hb2.c5, hb2.c4⟩ ?_
  clear hK' K''
  refine wpAnyH_take (i := 9) (v := ?_) rfl (by kernel_rfl) (by kernel_rfl) (by kernel_rfl) (fun _ _ _ h => h) (Or.inl ⟨by rfl, by intro w _; go_simp; with_reducible rfl⟩) ⟨hb2.c5, hb2.c4⟩ ?_
  refine wpAnyH_done (by kernel_rfl) ?_ _
  simp only [List.getElem_toArray, List.getElem_cons_succ, List.getElem_cons_zero]
  go_frame
  clear hS0 d4 d5 c3 c5 c6 c7 f5
  have hrr : rb ≠ rcb := by omega
  have hsz2 : rb < w2.heap.size := lt_of hda
  obtain ⟨ao, ocap, hov⟩ := hL.form 0
  have hov : s1.ov = .slice ao Y.out.length ocap := hov
  obtain ⟨ks0, hrw0, hks0⟩ := hL.rows
  obtain ⟨SV, hSV⟩ := slice_from (show w0.ownsRow rb 5 1 s1.ov Y.out.length _ from hrw0.row 0) r.told htold
  have hcv := conv_from hL htold hSV (World.drew w2) hf02.drew
  have e6 : w2.cell? ⟨rb, 6, none⟩ = some s1.ov := hda.c6
  have e9 := hb2.c9
  have g9 := hb2.fz 9
  rw [hov] at e6 hSV
  have hkr : Kread w2 K s1.kv Y.keys := kread_of hL hf02
  have hkge := hL.kge
  have hklt : ∀ k ∈ K, k < w2.heap.size := fun k hk => Nat.lt_of_lt_of_le (hL.klt k hk) hf02.size
  have her : s1.er = Rf.erOf Y.st := hL.er
  have hpos := hL.pos
  have hkvb : ∀ g, s1.kv.ownBlock = some g → g ≠ rcb := fun g hg e => by have := (ownsRow_lt (hrw0.row 1) (b := g) hg).1; omega
  have HSV := hide hSV
  have HKR := hide hkr
  have HKGE := hide hkge
  have HKLT := hide hklt
  have HER := hide her
  have HPOS := hide hpos
  have HKVB := hide hkvb
  have HDA := hide hda
  have HB2 := hide hb2
  have HF2 := hide hf2
  clear hSV hkr hkge hklt her hpos hkvb hda hb2 hf2 hL hks0 hrw0 ks0 hf02 hov HRD
  obtain ⟨n, hn⟩ : ∃ n, n = Y.out.length := ⟨_, rfl⟩
  rw [← hn] at e6 HSV htold
  go_wp2_with fail
  refine wp_region_held (S := fun W => W.cell? ⟨rb, 6, none⟩ = some (.slice ao n ocap) ∧ W.cell? ⟨rcb, 9, none⟩ = some (.int .i64 r.told) ∧ (convert 61 9 SV).run Tryz.prog W = .ok (.string ⟨(Y.out.drop r.told).toArray⟩) W) (by kernel_rfl) ?_
  change wpAnyH _ _ _ _ _ _ _ _ (World.drew _)
  have hS0 : (World.drew w2).cell? ⟨rb, 6, none⟩ = some (.slice ao n ocap) ∧ (World.drew w2).cell? ⟨rcb, 9, none⟩ = some (.int .i64 r.told) ∧ (convert 61 9 SV).run Tryz.prog (World.drew w2) = .ok (.string ⟨(Y.out.drop r.told).toArray⟩) (World.drew w2) := ⟨e6, e9, hcv⟩
  refine wpAnyH_take (i := 0) (v := ?_) rfl (by kernel_rfl) (by kernel_rfl) (by kernel_rfl) (fun _ _ _ h => h) (Or.inl ⟨by rfl, by intro w _; go_simp; with_reducible rfl⟩) hS0 ?_
  refine wpAnyH_take (i := 1) (v := ?_) rfl (by kernel_rfl) (by kernel_rfl) (by kernel_rfl) (fun _ _ _ h => h) (Or.inl ⟨by rfl, by intro w _; go_simp; with_reducible rfl⟩) hS0 ?_
  refine wpAnyH_take (i := 2) (v := ?_) rfl (by kernel_rfl) (by kernel_rfl) (by kernel_rfl) (fun _ _ _ h => h) (Or.inl ⟨by rfl, by intro w _; go_simp; with_reducible rfl⟩) hS0 ?_
  refine wpAnyH_take (i := 3) (v := .slice ao n ocap) rfl (by kernel_rfl) (by kernel_rfl) (by kernel_rfl) (fun _ _ _ h => h) (Or.inl ⟨by rfl, by intro w h; have h := h.1; go_simp⟩) hS0 ?_
  refine wpAnyH_take (i := 4) (v := ?_) rfl (by kernel_rfl) (by kernel_rfl) (by kernel_rfl) (fun _ _ _ h => h) (Or.inl ⟨by rfl, by intro w _; go_simp; with_reducible rfl⟩) hS0 ?_
  refine wpAnyH_take (i := 5) (v := ?_) rfl (by kernel_rfl) (by kernel_rfl) (by kernel_rfl) (fun _ _ _ h => h) (Or.inl ⟨by rfl, by intro w _; go_simp; with_reducible rfl⟩) hS0 ?_
  refine wpAnyH_take (i := 6) (v := ?_) rfl (by kernel_rfl) (by kernel_rfl) (by kernel_rfl) (fun _ _ _ h => h) (Or.inl ⟨by rfl, by intro w _; go_simp; with_reducible rfl⟩) hS0 ?_
  refine wpAnyH_take (i := 7) (v := .int .i64 r.told) rfl (by kernel_rfl) (by kernel_rfl) (by kernel_rfl) (fun _ _ _ h => h) (Or.inl ⟨by rfl, by intro w h; have h := h.2.1; go_simp⟩) hS0 ?_
  refine wpAnyH_take (i := 8) (v := SV) rfl (by kernel_rfl) (by kernel_rfl) (by kernel_rfl) (fun _ _ _ h => h) (Or.inl ⟨by rfl, ?hsl⟩) hS0 ?_
  case hsl =>
    intro w' _
    have hh0 : (0 : Int) ≤ (r.told : Int) := by omega
    have hh1 : (r.told : Int) ≤ (n : Int) := by omega
    have HEQ := hide (slice_eq HSV.out)
    clear HSV HKR HKGE HKLT HER HPOS HKVB HDA HB2 HF2 HW1 HTT HB1 HF1 HFIN HK H HN HKL HASK HJL HSZ1 hcv e6 e9 g9 hn htold
    go_simp
    exact HEQ.out
  refine wpAnyH_take (i := 9) (v := .string ⟨(Y.out.drop r.told).toArray⟩) rfl (by kernel_rfl) (by kernel_rfl) (by kernel_rfl) (fun _ _ _ h => h) (Or.inl ⟨by rfl, by intro w h; have h := h.2.2; go_simp⟩) hS0 ?_
  refine wpAnyH_take (i := 10) (v := ?_) rfl (by kernel_rfl) (by kernel_rfl) (by kernel_rfl) (fun _ _ _ h => h) (Or.inl ⟨by rfl, by intro w _; go_simp; with_reducible rfl⟩) hS0 ?_
  refine wpAnyH_done (by kernel_rfl) ?_ _
  simp only [List.getElem_toArray, List.getElem_cons_succ, List.getElem_cons_zero]
  go_frame
  clear hS0 hcv
  have HNN := hide hn
  clear hn
  -- what is told is kept
  obtain ⟨ka, kcap, hkv, hkc⟩ := HKR.out
  have k7 : w2.cell? ⟨rb, 7, none⟩ = some (.slice ka Y.keys.length kcap) := by rw [HDA.out.c7]; show some s1.kv = _; rw [hkv]
  have k3 : w2.cell? ⟨rb, 3, none⟩ = some (.int .i64 (Rf.erOf Y.st : Nat)) := by rw [HDA.out.c3]; show some (Value.int .i64 (s1.er : Nat)) = _; rw [HER.out]
  have k4 : w2.cell? ⟨rb, 4, none⟩ = some (.bool dn) := HDA.out.c4
  have e10 := HB2.out.c10
  have hf3 : Fr (One rcb) w2 (World.drew (w2.setCell ⟨rcb, 9, none⟩ (.int .i64 n))) := (one_set rcb 9 w2 _).drew
  have hb3 : Rb (World.drew (w2.setCell ⟨rcb, 9, none⟩ (.int .i64 n))) rcb { r with told := n } tt kv0 := HB2.out.s9 _ _ rfl
  have q10 : (w2.setCell ⟨rcb, 9, none⟩ (.int .i64 n)).cell? ⟨rcb, 10, none⟩ = some (.int .i64 r.asked) := hb3.c10
  obtain ⟨w3, hw3⟩ : ∃ w3, w3 = World.drew (w2.setCell ⟨rcb, 9, none⟩ (.int .i64 n)) := ⟨_, rfl⟩
  rw [← hw3] at hf3 hb3
  have q7 := (hf3.cell (p := ⟨rb, 7, none⟩) hsz2 (one_ne hrr)).trans k7
  have q3 := (hf3.cell (p := ⟨rb, 3, none⟩) hsz2 (one_ne hrr)).trans k3
  have q4 := (hf3.cell (p := ⟨rb, 4, none⟩) hsz2 (one_ne hrr)).trans k4
  have hkl3 : Kl w3 (K ++ Z) kv0 r.keys := by
    have hf13 : Fr (One rcb) w w3 := (HF1.out.trans (HF2.out.of_no (T := One rcb))).trans hf3
    exact HK.out.same hf13.size (fun k hk => hf13.block k (H.out.zlt k hk) (one_ne (fun e => H.out.nz (e ▸ hk)))) (fun k hk => List.mem_append.2 (.inr hk))
  have HKL3 := hide hkl3
  have HQ7 := hide q7
  have HQ3 := hide q3
  have HQ4 := hide q4
  have HW3 := hide hw3
  have HF3 := hide hf3
  have HB3 := hide hb3
  have HKC := hide hkc
  have HKV := hide hkv
  clear hw3 hf3 hb3 hkc hkv e10 k7 k3 k4 q7 q3 q4 hkl3
  go_wp2_with fail
  rw [← HW3.out]
  clear q10
  obtain ⟨ks, hks⟩ : ∃ ks, ks = Y.keys.drop r.asked := ⟨_, rfl⟩
  have HKS := hide hks
  have hkn : r.asked + ks.length = max r.asked Y.keys.length := by rw [hks, List.length_drop]; omega
  clear hks
  have HKN := hide hkn
  clear hkn
  have hkl0 : Y.keys.length ≤ r.asked + 32000 := by have := HASK.out; rw [List.length_drop] at this; omega
  have HKSL : Hid (∀ k ∈ ks, k.length = 316) := fun k hk => HKL.out k (by rw [HKS.out] at hk; exact List.mem_of_mem_drop hk)
  have HN1 : Hid (Rf.Neat { r with told := n }) := ⟨HN.out.len, HN.out.cache, HN.out.klen⟩
  have HNZ : Hid (rcb ∉ K ++ Z) := fun hm => by
    rcases List.mem_append.1 hm with hm | hm
    · have := HKGE.out _ hm; omega
    · exact H.out.nz hm
  have HR3 : Hid (rcb < w3.heap.size) := by have := HF3.out.size; unfold Hid; omega
  go_loopw [8] (fun iv wr => ∃ i j : Nat, Hid (i = r.asked + j) ∧ Hid (j ≤ ks.length) ∧ iv = .int .i64 i ∧ i ≤ 200000 ∧ Hid (AskAt rcb (K ++ Z) { r with told := n } tt ks w3 j wr)) (fun iv _ => r.asked + ks.length - (intOf iv).toNat)
  case atStart =>
    refine ⟨r.asked, 0, rfl, Nat.zero_le _, rfl, by omega, ⟨⟨kv0, [], ?_, ?_, fun g hg => by simp at hg⟩, Fr.refl _ _⟩⟩
    · exact HB3.out
    · exact HKL3.out
  case round =>
    obtain ⟨i, j, HI, HJ, rfl, hi2, HA⟩ := hrel
    have k7 := (HA.out.fr.cell (p := ⟨rb, 7, none⟩) (Nat.lt_of_lt_of_le hsz2 HF3.out.size) (one_ne hrr)).trans HQ7.out
    by_cases hlt : i < Y.keys.length
    · obtain ⟨g, v, bk, rfl, hgl, hcell, hbk, hins⟩ := HKC.out i hlt
      have hg1 : g ≠ rcb := HKVB.out g (by rw [HKV.out]; rfl)
      have hcell := (HA.out.fr.cell (p := ⟨g, i, none⟩) (Nat.lt_of_lt_of_le hgl HF3.out.size) (one_ne hg1)).trans ((HF3.out.cell (p := ⟨g, i, none⟩) hgl (one_ne hg1)).trans hcell)
      have hbr : bk ≠ rcb := by have := HKGE.out bk hbk; omega
      have hjl : j < ks.length := by have := HKN.out; have := HI.out; omega
      have ek : Y.keys.getD i [] = ks.getD j [] := by rw [HKS.out, List.getD, List.getD, List.getElem?_drop, HI.out]
      rw [ek] at hins
      have HC := hide (HA.out.next hjl HN1.out HKSL.out (by show r.made + _ < _; have := HASK.out; rw [← HKS.out] at this; omega) HNZ.out HR3.out ((hins.fr HF3.out (one_ne hbr)).fr HA.out.fr (one_ne hbr)) (List.mem_append.2 (.inl hbk)))
      clear hins ek
      go_wp2_with fail
      refine HC.out.mono ?_
      rintro e w4 ⟨rfl, hA4⟩
      have HA4 := hide hA4
      clear hA4 HC
      go_wp2_with fail
      refine ⟨⟨i + 1, j + 1, by unfold Hid; rw [HI.out]; omega, by unfold Hid; omega, by go_num, by omega, HA4.out⟩, ?_⟩
      have := HKN.out
      have := HI.out
      simp [intOf]
      omega
    · have hjl : j = ks.length := by have := HKN.out; have := HI.out; have := HJ.out; omega
      obtain ⟨⟨kvj, G, hbj, hklj, hGj⟩, hfj⟩ := HA.out
      rw [hjl, List.take_length] at hbj hklj
      obtain ⟨rj, hrj⟩ : ∃ rj, rj = Rf.Dec.asks { r with told := n } ks := ⟨_, rfl⟩
      rw [← hrj] at hbj hklj
      have u10 := hbj.c10
      have v10 := hbj.fz 10
      have hba := hbj.s10 (Y.keys.length : Int) Y.keys.length rfl
      have hfa := one_set rcb 10 wr (.int .i64 (Y.keys.length : Nat))
      have hdaj : Da wr rb { s1 with dn := dn } := (HDA.out.fr HF3.out (one_ne hrr)).fr hfj (one_ne hrr)
      have hszj : rb < wr.heap.size := lt_of hdaj
      have hdaa := hdaj.fr hfa (one_ne hrr)
      have a3 : (wr.setCell ⟨rcb, 10, none⟩ (.int .i64 (Y.keys.length : Nat))).cell? ⟨rb, 3, none⟩ = some (.int .i64 (Rf.erOf Y.st : Nat)) := by rw [hdaa.c3]; show some (Value.int .i64 (s1.er : Nat)) = _; rw [HER.out]
      have u6 := hba.c6
      have v6 := hba.fz 6
      have hbb := hba.s6 (Rf.erOf Y.st : Int) (Rf.erOf Y.st) rfl
      have hdab := hdaa.fr (one_set rcb 6 _ (.int .i64 (Rf.erOf Y.st : Nat))) (one_ne hrr)
      have a4 := hdab.c4
      have u7 := hbb.c7
      have v7 := hbb.fz 7
      have hbc := hbb.s7 dn
      have hdac := hdab.fr (one_set rcb 7 _ (.bool dn)) (one_ne hrr)
      have u8 := hbc.c8
      have v8 := hbc.fz 8
      obtain ⟨wc, hwc⟩ : ∃ wc, wc = ((wr.setCell ⟨rcb, 10, none⟩ (.int .i64 (Y.keys.length : Nat))).setCell ⟨rcb, 6, none⟩ (.int .i64 (Rf.erOf Y.st : Nat))).setCell ⟨rcb, 7, none⟩ (.bool dn) := ⟨_, rfl⟩
      have hfc : Fr (One rcb) wr wc := by rw [hwc]; exact (hfa.trans (one_set rcb 6 _ _)).trans (one_set rcb 7 _ _)
      rw [← hwc] at hbc hdac u8 v8
      have hus : Calls Tryz.prog 22 #[.pointer (some ⟨rb, 0, none⟩)] wc fun e w' => ∃ z : Int, e = .returned (.int .i64 z) ∧ w' = wc ∧ (dn = true → z = ((Y.pos + 7) / 8 : Nat)) := by
        cases hdn : dn with
        | false =>
          refine (rused_free rb _ wc hdac).mono ?_
          rintro e w' ⟨z, rfl, rfl⟩
          exact ⟨z, rfl, rfl, fun h => by cases h⟩
        | true =>
          have hp := HPOS.out (HST.out hdn)
          have hdl : (r.data ++ t.data.toList).length ≤ 4000 := HL4.out
          refine (rused_any rb _ wc hdac (by show s1.pos ≤ 100000; omega)).mono ?_
          rintro e w' ⟨rfl, rfl⟩
          exact ⟨_, rfl, rfl, fun _ => by show (((s1.pos + 7) / 8 : Nat) : Int) = _; rw [hp.1]⟩
      have hdone : ∀ z : Int, (dn = true → z = ((Y.pos + 7) / 8 : Nat)) → RFeedP rcb Z r t.data.toList w (.returned (.tuple #[.string ⟨(Y.out.drop r.told).toArray⟩, .int .i64 (Rf.erOf Y.st : Nat)])) (wc.setCell ⟨rcb, 8, none⟩ (.int .i64 z)) := by
        intro z hz
        have hbd := hbc.s8 z
        have hfd : Fr (One rcb) wr (wc.setCell ⟨rcb, 8, none⟩ (.int .i64 z)) := hfc.trans (one_set rcb 8 wc _)
        have hfw3 : Fr (One rcb) w w3 := (HF1.out.trans (HF2.out.of_no (T := One rcb))).trans HF3.out
        have hfw := hfw3.trans (hfj.trans hfd)
        have hcg := Rf.Dec.asks_congr ks r { r with told := n } rfl rfl rfl
        have k1 := Rf.Dec.asks_kin ks r
        have k2 := Rf.Dec.asks_kin ks { r with told := n }
        rw [← hrj] at hcg k2
        have hnz2 : rcb ∉ G ++ (K ++ Z) := fun hm => by
          rcases List.mem_append.1 hm with hm | hm
          · have := (hGj _ hm).1; have := HR3.out; omega
          · exact HNZ.out hm
        have hw3s : w2.heap.size ≤ w3.heap.size := HF3.out.size
        have hw2s : w.heap.size ≤ w2.heap.size := Nat.le_trans HF1.out.size HF2.out.size
        refine HFIN.out z _ hz hfw ⟨G ++ K, fun g hg => ?_, ⟨⟨tt, kvj, ?_, ?_, ?_⟩, fun q hq => ?_, fun hm => hnz2 (by rw [← List.append_assoc]; exact hm)⟩⟩
        · rcases List.mem_append.1 hg with hg | hg
          · have h1 := hGj g hg
            exact ⟨by omega, Nat.lt_of_lt_of_le h1.2 hfd.size⟩
          · have h1 := HKGE.out g hg
            have h2 := HKLT.out g hg
            have h3 := hfj.size
            have h4 := hfd.size
            have h5 := HRB.out
            exact ⟨by omega, by omega⟩
        · refine hbd.of _ ?_ ?_ ?_ ?_ rfl rfl rfl ?_ rfl
          · show (r.asks _).cache = rj.cache; rw [← HKS.out, k1.cache, k2.cache]
          · show (r.asks _).made = rj.made; rw [← HKS.out, hcg.1]
          · show (r.asks _).begun = rj.begun; rw [← HKS.out, k1.begun, k2.begun]
          · show (r.asks _).lim = rj.lim; rw [← HKS.out, k1.lim, k2.lim]
          · show Y.out.length = rj.told; rw [k2.told]; exact HNN.out.symm
        · exact HJL.out
        · show Kl _ ((G ++ K) ++ Z) kvj (r.asks (Y.keys.drop r.asked)).keys
          rw [← HKS.out, ← hcg.2, List.append_assoc]
          exact hklj.same hfd.size (fun k hk => by
            have hkn : k ≠ rcb := fun e => hnz2 (e ▸ hk)
            rcases Nat.lt_or_ge k wr.heap.size with hk2 | hk2
            · exact hfd.block k hk2 (one_ne hkn)
            · exfalso
              rcases List.mem_append.1 hk with h | h
              · have := (hGj k h).2; omega
              · rcases List.mem_append.1 h with h | h
                · have := HKLT.out k h; have := hfj.size; omega
                · have := H.out.zlt k h; have := hfj.size; omega) (fun _ h => h)
        · have h3 := hfj.size
          have h4 := hfd.size
          rcases List.mem_append.1 hq with h | h
          · rcases List.mem_append.1 h with h | h
            · have := (hGj q h).2; omega
            · have := HKLT.out q h; omega
          · have := H.out.zlt q h; omega
      have a3d : ∀ z : Int, (wc.setCell ⟨rcb, 8, none⟩ (.int .i64 z)).cell? ⟨rb, 3, none⟩ = some (.int .i64 (Rf.erOf Y.st : Nat)) := fun z => by
        rw [(hdac.fr (one_set rcb 8 wc (.int .i64 z)) (one_ne hrr)).c3]; show some (Value.int .i64 (s1.er : Nat)) = _; rw [HER.out]
      have HA3 := hide a3d
      have HDONE := hide hdone
      have HUS := hide hus
      have HWC := hide hwc
      clear hus hdone hwc hfc hbc hbb hba hbj hklj hGj hfj hdac hdab hdaa hdaj hfa hrj a3d HFIN HKC HKL HKL3 HB1 HB2 HB3 HDA HA
      obtain ⟨er, her⟩ : ∃ er, er = Rf.erOf Y.st := ⟨_, rfl⟩
      rw [← her] at HA3 HDONE HWC a3 a4 u7 v7
      clear her
      go_wp2_with fail
      rw [← HWC.out]
      refine HUS.out.mono ?_
      rintro e w4 ⟨z, rfl, hw, hz⟩
      obtain rfl := hw.symm
      have a3z := HA3.out z
      have HZ := hide (HDONE.out z hz)
      clear hz HUS HDONE
      go_wp2_with fail
      go_quiet (fail)
      go_wp2
      go_ret2
      exact HZ.out.drewN _
end Go.Proofs.YtjjjlilflbddoaaGreatDoor
namespace Go.Proofs.YtjjjlilflbddoaaGreatDoor
open Go.RowKit

namespace Gz
theorem step_asks {d : List UInt8} {lim : Nat} {m m' : M} (h : step d lim m = .ok m') (hp : m.pos ≤ 8 * d.length) : m'.asks.length + m.pos ≤ m.asks.length + m'.pos := by
  have hl := (step_less h hp).1
  have same : m'.asks = m.asks → m'.asks.length + m.pos ≤ m.asks.length + m'.pos := fun e => by rw [e]; omega
  unfold step at h
  split at h
  · obtain ⟨x, q, h1, h⟩ := thenS_ok h
    unfold headS at h
    split at h
    · cases h; exact same rfl
    split at h
    · cases h; exact same rfl
    split at h
    · cases h; exact same rfl
    · cases h
  · obtain ⟨x, q, h1, h⟩ := thenS_ok h
    cases h; exact same rfl
  · split at h
    · cases h; exact same rfl
    · obtain ⟨x, q, h1, h⟩ := thenS_ok h
      unfold byteS at h
      split at h
      · cases h
      · cases h; exact same rfl
  · obtain ⟨x, q, h1, h⟩ := thenS_ok h
    have e := keys_ok h1
    cases h
    show (m.asks ++ [x]).length + m.pos ≤ m.asks.length + q
    rw [List.length_append, List.length_singleton]
    omega
  · split at h
    · cases h
    · obtain ⟨x, q, h1, h⟩ := thenS_ok h
      unfold obeyS at h
      split at h
      · split at h
        · cases h
        · cases h; exact same rfl
      split at h
      · cases h; exact same rfl
      split at h
      · obtain ⟨x, q, h1, h⟩ := thenS_ok h
        unfold copyS at h
        split at h
        · cases h
        split at h
        · cases h
        · cases h; exact same rfl
      · cases h
  · cases h
theorem final_asks (d : List UInt8) (lim : Nat) : ∀ m, m.pos ≤ 8 * d.length → (final d lim m).asks.length + m.pos ≤ m.asks.length + (final d lim m).pos :=
  final_ind (fun m e _ h => by rw [final_bad h]; omega) (fun m m' hp h ih => by rw [final_ok h hp]; have := step_asks h hp; omega)
end Gz

theorem read_keys (d : List UInt8) (lim : Nat) : (Rf.read d lim).1.keys.length ≤ 8 * d.length := by
  obtain ⟨k, _, h2, _⟩ := read_tells d lim
  have h3 := Gz.final_asks d lim Gz.M.start (Nat.zero_le _)
  have h4 := (Gz.final_pos d lim Gz.M.start (Nat.zero_le _)).2
  rw [h2, List.length_map] at h3
  have e1 : Gz.M.start.asks.length = 0 := rfl
  have e2 : Gz.M.start.pos = 0 := rfl
  omega
theorem read_st (d : List UInt8) (lim : Nat) (h : (Rf.read d lim).2 = true) : (Rf.read d lim).1.st = 0 := by
  obtain ⟨k, _, _, _, h4⟩ := read_tells d lim
  rcases h4 with h4 | h4
  · exact h4.2.2.1
  · rw [h4.2.1] at h; cases h
theorem Rel.neat {x : Gz.Dec} {r : Rf.Dec} (h : Rel x r) (hm : x.tc.most ≤ 16) : Rf.Neat r := ⟨h.t.len, by rw [h.t.most]; exact hm, h.t.klen⟩

/-- A feeding of a decoder of the document's beside the program's. -/
theorem rfeed_rel (rcb : Nat) (Z : List Nat) (x : Gz.Dec) (r : Rf.Dec) (t : ByteArray) (w : World) (h : RDec w rcb Z r) (hR : Rel x r) (hk : x.tc.Ok) (hl : x.lim ≤ 6000) (hd : x.data.length ≤ 4000) (ha : x.tc.asked + 32000 < 2 ^ 62) (ht : t.size < 2 ^ 62)
    (hO : OrdAt w) (hG : 11 < w.heap.size) (hro : rcb ≠ 11) :
    Calls Tryz.prog 26 #[.pointer (some ⟨rcb, 0, none⟩), .string t] w (RFeedP rcb Z r t.data.toList w) := by
  cases hon : x.on with
  | false =>
    refine rfeed_off rcb Z r t w h ?_
    rcases hR.off hon with h | h | h
    · exact .inl h.1
    · exact .inr (.inr h.2.1)
    · exact .inr (.inl h.2.2.1)
  | true =>
    obtain ⟨b1, b2, b3, b4, b5, b6, b7, b8, b9⟩ := hR.on hon
    by_cases hlen : 4000 < (r.data ++ t.data.toList).length
    · exact rfeed_long rcb Z r t w h b1 b3 b2 (by rw [b5]; exact hd) ht hlen
    · have hrk := read_keys (r.data ++ t.data.toList) r.lim
      have hmade := hk.made
      have hrm := hR.t.made
      refine rfeed_on rcb Z r t w h b1 b3 b2 (by omega) (by omega) hO hG hro (hR.neat hk.most) (hR.told_le hon t.data.toList) ?_ (by rw [List.length_drop]; omega) ?_ (by omega) (read_st _ _)
      · obtain ⟨k, _, _, h3, _⟩ := read_tells (r.data ++ t.data.toList) r.lim
        exact h3
      · rw [b7]
        have h3 := Gz.final_asks x.data x.lim Gz.M.start (Nat.zero_le _)
        have h4 := (Gz.final_pos x.data x.lim Gz.M.start (Nat.zero_le _)).2
        have e1 : Gz.M.start.asks.length = 0 := rfl
        have e2 : Gz.M.start.pos = 0 := rfl
        unfold Gz.Dec.at
        omega
end Go.Proofs.YtjjjlilflbddoaaGreatDoor
