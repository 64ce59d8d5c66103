import Derived.Test.YtjjjlilflbddoaaDoorGRtD
import Derived.Test.YtjjjlilflbddoaaDoorGPtM
import Derived.Test.YtjjjlilflbddoaaDoorGRBlk
import Derived.Test.YtjjjlilflbddoaaDoorRBridge
/-
  The law of Deflate: what is refused, and kind 0.
-/
namespace Go.Proofs.YtjjjlilflbddoaaDoor
open Go.RowKit
theorem numW_any (k : Int) (w : World) : Calls Tryd.prog 11 #[.int .i64 k] w fun e w' => e = .returned (.int .i64 k) ∧ w' = w := by
  go_enter Tryd.func11, Tryd.ntmps11
  go_wp2
  go_ret
  exact ⟨rfl, rfl⟩

set_option maxRecDepth 100000 in
set_option maxHeartbeats 1600000 in
theorem deflatesLaw_no (t : ByteArray) (k f : Int) (w : World) (hf : (f == 0) = false) (h1 : Calls Tryd.prog 20 #[.string t, .int .i64 k] w fun e w' => e = .returned (dfl [] f) ∧ w' = w) (h2 : Calls Tryd.prog 21 #[.string t, .int .i64 k] w fun e w' => e = .returned (.int .i64 f) ∧ w' = w) :
    Calls Tryd.prog 7 #[.string t, .int .i64 k] w fun e w' => e = .returned (.bool true) ∧ Fr No w w' := by
  have H1 := hide h1
  have H2 := hide h2
  have H3 := hide (numW_any f w)
  have hne : (f != 0) = true := by simp [bne, hf]
  clear h1 h2
  go_enter Tryd.func7, Tryd.ntmps7
  go_wp2_with fail
  refine H1.out.mono ?_
  rintro ee W1 ⟨rfl, hW1⟩
  have hW1 := hW1.symm
  subst hW1
  unfold dfl
  go_wp2_with fail
  refine H2.out.mono ?_
  rintro ee W1 ⟨rfl, hW1⟩
  have hW1 := hW1.symm
  subst hW1
  go_wp2_with fail
  refine H3.out.mono ?_
  rintro ee W1 ⟨rfl, hW1⟩
  have hW1 := hW1.symm
  subst hW1
  go_wp2_with fail
  go_ret
  exact ⟨rfl, Fr.refl _ _⟩
theorem deflatesLaw_bad (t : ByteArray) (k : Int) (w : World) (h : k < 0 ∨ 2 < k) : Calls Tryd.prog 7 #[.string t, .int .i64 k] w fun e w' => e = .returned (.bool true) ∧ Fr No w w' :=
  deflatesLaw_no t k 11 w rfl (deflate_bad t k w h) (refused_bad t k w h)
theorem deflatesLaw_long (t : ByteArray) (k : Int) (w : World) (h1 : 0 ≤ k) (h2 : k ≤ 2) (ht : 1500 < t.size) : Calls Tryd.prog 7 #[.string t, .int .i64 k] w fun e w' => e = .returned (.bool true) ∧ Fr No w w' :=
  deflatesLaw_no t k 1 w rfl (deflate_long t k w h1 h2 ht) (refused_long t k w h1 h2 ht)

set_option maxRecDepth 100000 in
set_option maxHeartbeats 1600000 in
theorem deflatesLaw_0 (t : ByteArray) (w : World) (ht : t.size ≤ 1500) (hE : PkEnv w) :
    Calls Tryd.prog 7 #[.string t, .int .i64 0] w fun e w' => e = .returned (.bool true) ∧ Fr No w w' := by
  have H1 := hide (deflate_any t 0 w (by omega) ht hE)
  have H2 := hide (fun w => refused_no t 0 w (by omega) (by omega) ht)
  have H3 := hide (numW_any 0)
  have H4 := hide (fun w => rDocStored_any t w ht)
  clear hE
  go_enter Tryd.func7, Tryd.ntmps7
  go_wp2_with fail
  refine H1.out.mono ?_
  rintro ee w1 ⟨bs, hp, rfl, hf1⟩
  have hbs : bs = Pk.packed0 t.data.toList := by
    rcases hp with h | h | h
    · exact h.2
    · exact absurd h.1 (by omega)
    · exact absurd h.1 (by omega)
  subst hbs
  have HF1 := hide hf1
  clear hf1 hp
  unfold dfl
  obtain ⟨s, hs⟩ : ∃ s, s = (Pk.toBytes (Pk.packed0 t.data.toList)).toArray := ⟨_, rfl⟩
  rw [← hs] at H4 ⊢
  clear hs
  go_wp2_with fail
  refine (H2.out w1).mono ?_
  rintro ee W1 ⟨rfl, hW1⟩
  have hW1 := hW1.symm
  subst hW1
  go_wp2_with fail
  refine (H3.out _).mono ?_
  rintro ee W1 ⟨rfl, hW1⟩
  have hW1 := hW1.symm
  subst hW1
  go_wp2_with fail
  refine (H4.out _).mono ?_
  rintro ee w2 ⟨rfl, hf2⟩
  have HF2 := hide (HF1.out.trans hf2)
  clear hf2
  go_wp2_with fail
  go_ret
  exact ⟨by rfl, HF2.out⟩
end Go.Proofs.YtjjjlilflbddoaaDoor
/-
  The law of Deflate: kinds 1 and 2.
-/
namespace Go.Proofs.YtjjjlilflbddoaaDoor
open Go.RowKit Pm
/-- What is packed is read back. -/
theorem packOf_read {k : Nat} {d : List UInt8} {bs : List Nat} (h : PackOf k d bs) (h0 : k ≠ 0) (hd : d.length ≤ 1500) : ∃ ks, Rf.read (Pk.toBytes bs) 1500 = ({ pos := bs.length, st := 0, out := d, keys := ks, kinds := [k], toks := Pk.toks d }, true) ∧ bs.length ≤ 32000 ∧ Pk.Bits bs := by
  rcases h with ⟨e, _⟩ | ⟨rfl, rfl⟩ | ⟨rfl, ls, lf, tl, b1, b2, b3, rfl⟩
  · exact absurd e h0
  · exact ⟨_, Pk.read1 d 1500 hd (by omega), Pk.size1 d hd, Pk.bits_1 d⟩
  · have H := Pk.head_of b1 b2 b3
    exact ⟨_, Pk.read2 d 1500 H (Pk.suf_of b1 b2) hd (by omega), Pk.size2 d H hd, Pk.bits_2 d ls lf tl⟩
theorem rconvD {B rb : Nat} {K : List Nat} {d : List UInt8} {lim : Nat} {x : Rf.D} {w : World} {s : DS} (h : RL B rb K d lim x w s) (w' : World) (f : Fr (One rb) w w') : (convert 51 9 s.ov).run Tryd.prog w' = .ok (.string ⟨x.out.toArray⟩) w' := by
  obtain ⟨ks, hrw, _⟩ := h.rows
  have hrow : w.ownsRow B 5 1 s.ov x.out.length (x.out.map bv) := hrw.row 0
  rcases hrow.2 with ⟨h1, h0⟩ | ⟨g, cap, cur, hv, _⟩
  · have e : x.out = [] := List.length_eq_zero_iff.1 h0
    rw [e, h1, run_convert_bytes_string w' 51 9 5 none 0 0 Tryd.underlying51 Tryd.underlying5 Tryd.underlying9]
    rfl
  · rw [hv]
    refine run_convert_bytes_back w' 51 9 5 ⟨g, 0, none⟩ cap x.out Tryd.underlying51 Tryd.underlying5 Tryd.underlying9 (fun j hj => ?_)
    obtain ⟨g', cap', hv', hc⟩ := h.byte hj
    rw [hv] at hv'
    injection hv' with e1
    injection e1 with e2
    injection e2 with e3
    subst e3
    have e4 : (⟨g, 0, none⟩ : Addr).add j = ⟨g, j, none⟩ := by simp only [Addr.add]; split <;> simp_all
    have hgl := ownsRow_lt (hrw.row 0) (b := g) (by rw [show s.row 0 = s.ov from rfl, hv]; rfl)
    have hgf := hrw.far 0 g (by rw [show s.row 0 = s.ov from rfl, hv]; rfl)
    rw [e4, f.cell (p := ⟨g, j, none⟩) hgl.2 (one_ne hgf.1), hc]
    simp [List.getD, hj]
/-- What the law finds in what was read. -/
structure Found (w : World) (rb : Nat) (t : ByteArray) (k n : Nat) (ts : List (Nat × Nat)) (ov nv tv : Value) : Prop where
  c1 : w.cell? ⟨rb, 1, none⟩ = some (.int .i64 n)
  c3 : w.cell? ⟨rb, 3, none⟩ = some (.int .i64 0)
  c4 : w.cell? ⟨rb, 4, none⟩ = some (.bool true)
  c6 : w.cell? ⟨rb, 6, none⟩ = some ov
  c8 : w.cell? ⟨rb, 8, none⟩ = some nv
  c9 : w.cell? ⟨rb, 9, none⟩ = some tv
  lt : rb < w.heap.size
  cv : (convert 51 9 ov).run Tryd.prog w = .ok (.string t) w
  kn : ∃ g cap, nv = .slice (some ⟨g, 0, none⟩) 1 cap ∧ g < w.heap.size ∧ w.cell? ⟨g, 0, none⟩ = some (.int .i64 k)
  tk : ∃ ao cap, tv = .slice ao ts.length cap ∧ ToksAt w ao ts
theorem found_of {s t : ByteArray} {lim k n : Nat} {w w' : World} {e : Ending} {ks : List (List Nat)} {ts : List (Nat × Nat)} (h : RReadP s.data.toList lim w ({ pos := n, st := 0, out := t.data.toList, keys := ks, kinds := [k], toks := ts }, true) e w') : ∃ ov nv tv, Found w' w.heap.size t k n ts ov nv tv := by
  obtain ⟨_, _, K, s1, w1, hL, hda, hf⟩ := h
  obtain ⟨kk, hr, _⟩ := hL.rows
  have hp : s1.pos = n := (hL.pos rfl).1
  have he : s1.er = 0 := hL.er
  have hrow : ∀ j, w'.ownsRow w.heap.size (ety j) (esz j) (s1.row j) _ _ := fun j => ownsRow_fr (hr.row j) hf (fun g hg => one_ne (hr.far j g hg).1)
  refine ⟨s1.ov, s1.nv, s1.tv, ?_, ?_, ?_, ?_, ?_, ?_, lt_of hda, ?_, ?_, ?_⟩
  · rw [cell_of hda]; show some (Value.int IntKind.i64 (s1.pos : Nat)) = _; rw [hp]
  · rw [cell_of hda]; show some (Value.int IntKind.i64 (s1.er : Nat)) = _; rw [he]; rfl
  · rw [cell_of hda]; rfl
  · rw [cell_of hda]; rfl
  · rw [cell_of hda]; rfl
  · rw [cell_of hda]; rfl
  · exact rconvD hL w' hf
  · rcases (hrow 2).2 with ⟨_, h0⟩ | ⟨g, cap, cur, hv, _, hg, hc, _, hs, ht⟩
    · exact absurd h0 (by show ¬ (1 : Nat) = 0; omega)
    · refine ⟨g, cap, hv, lt_of hg, ?_⟩
      rw [cell_of hg, ← Array.getElem?_toList]
      have h5 : (cur.toList.take 1)[0]? = some (iv k) := by
        have ht' : cur.toList.take 1 = [iv k] := ht
        rw [ht']; rfl
      rw [List.getElem?_take_of_lt (by omega)] at h5
      exact h5
  · exact toks_at (hrow 3)
end Go.Proofs.YtjjjlilflbddoaaDoor
