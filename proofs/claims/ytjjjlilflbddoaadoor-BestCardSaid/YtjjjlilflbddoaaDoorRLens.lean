import Derived.Test.YtjjjlilflbddoaaDoorGRTold
namespace Go.Proofs.YtjjjlilflbddoaaDoor
open Go.RowKit

/-- The order in which lengths are told, as the variable holds it. -/
def OrdAt (w : World) : Prop := ∀ i, i < 19 → w.cell? ⟨11, i, none⟩ = some (.int .i64 (Gz.order.getD i 0 : Nat))
theorem OrdAt.fr {S : Nat → Prop} {w w' : World} (h : OrdAt w) (f : Fr S w w') (hs : ¬ S 11) (hl : 11 < w.heap.size) : OrdAt w' :=
  fun i hi => (f.cell (p := ⟨11, i, none⟩) hl hs).trans (h i hi)

theorem num_val {d : List UInt8} {n p v q : Nat} (h : Gz.num d n p = .ok (v, q)) : v < 2 ^ n := by
  unfold Gz.num at h
  split at h
  · injection h with e; injection e with e1 e2; rw [← e1]; exact val_lt d p n
  · cases h

def Same (a b : DS) : Prop := a.s = b.s ∧ a.lim = b.lim ∧ a.row = b.row ∧ a.dn = b.dn
theorem Same.trans {a b c : DS} (h : Same a b) (k : Same b c) : Same a c := ⟨h.1.trans k.1, h.2.1.trans k.2.1, h.2.2.1.trans k.2.2.1, h.2.2.2.trans k.2.2.2⟩
section
variable {B rb : Nat} {K L : List Nat} {d : List UInt8} {lim : Nat} {x x' : Rf.D} {w w' : World} {s s' : DS}
/-- Another place or flag; new blocks are to stay too. -/
theorem RL.ofL (h : RL B rb K d lim x w s) (f : Fr (One rb) w w') (hr : Da w' rb s') (hs : Same s' s) (hL : ∀ k, k ∈ L → w.heap.size ≤ k ∧ k < w'.heap.size) (e1 : x'.out = x.out) (e2 : x'.keys = x.keys) (e3 : x'.kinds = x.kinds) (e4 : x'.toks = x.toks)
    (hsh : s'.sh = (x'.st == 2)) (her : s'.er = if x'.st = 2 then 0 else x'.st) (hpos : x'.st = 0 → s'.pos = x'.pos ∧ x'.pos ≤ 8 * d.length ∧ x'.toks.length ≤ x'.pos ∧ x'.kinds.length ≤ x'.pos ∧ x'.keys.length ≤ x'.pos) : RL B rb (L ++ K) d lim x' w' s' := by
  have h' := h.of f hr hs.1 hs.2.1 hs.2.2.1 hs.2.2.2 e1 e2 e3 e4 hsh her hpos
  obtain ⟨ks, hrw, hkk⟩ := h.rows
  have hrb := h.da.lt
  have ec : cnt x' = cnt x := by funext j; match j with | 0 => exact congrArg _ e1 | 1 => exact congrArg _ e2 | 2 => exact congrArg _ e3 | 3 => exact congrArg _ e4
  have ee : cel x' ks = cel x ks := by funext j; match j with | 0 => exact congrArg (List.map bv) e1 | 1 => rfl | 2 => exact congrArg (List.map iv) e3 | 3 => exact congrArg (List.flatMap tokv) e4
  have hrw' : Rows4 B rb K w' s' (cnt x') (cel x' ks) := by rw [ec, ee]; exact hrw.fr f hs.2.2.1
  refine ⟨h'.da, h'.hd, h'.slim, h'.sh, h'.er, h'.pos, ⟨ks, ⟨hrw'.row, hrw'.apart, fun j b hb => ?_⟩, fun i hi => ?_⟩, h'.dn, h'.bsz, h'.brb, ?_, fun k hk => ?_, h'.limle, h'.len, h'.dlen, fun k hk => ?_⟩
  · refine ⟨(hrw'.far j b hb).1, fun e => ?_⟩
    rcases List.mem_append.1 e with e | e
    · rw [hs.2.2.1] at hb; have := (hL b e).1; have := (ownsRow_lt (hrw.row j) hb).2; omega
    · exact (hrw'.far j b hb).2 e
  · rw [e2] at hi ⊢
    obtain ⟨b, hb, hin⟩ := hkk i hi
    exact ⟨b, List.mem_append.2 (Or.inr hb), hin.fr f (one_ne (h.ne hb))⟩
  · intro e
    rcases List.mem_append.1 e with e | e
    · have := (hL rb e).1; omega
    · exact h.rbK e
  · rcases List.mem_append.1 hk with e | e
    · exact (hL k e).2
    · exact h'.klt k e
  · rcases List.mem_append.1 hk with e | e
    · exact Nat.le_trans h.bsz (hL k e).1
    · exact h'.kge k e
end
theorem ins_take {w : World} {g cap n l : Nat} {t : List Nat} (h : ∀ i, i < t.length → g < w.heap.size ∧ w.cell? ⟨g, i, none⟩ = some (.int .i64 (t.getD i 0 : Nat))) (hl : l ≤ t.length) (hn : n = l) : Ins w g (.slice (some ⟨g, 0, none⟩) n cap) (t.take l) := by
  have e : (t.take l).length = l := by rw [List.length_take]; omega
  refine ⟨_, 0, cap, by rw [e, hn], fun i hi => ⟨rfl, (h i (by omega)).1, ?_⟩⟩
  rw [Nat.zero_add, (h i (by omega)).2]
  simp [List.getD, List.getElem?_take_of_lt (show i < l by omega)]
theorem ins_drop {w : World} {g cap n l : Nat} {t : List Nat} (h : ∀ i, i < t.length → g < w.heap.size ∧ w.cell? ⟨g, i, none⟩ = some (.int .i64 (t.getD i 0 : Nat))) (hn : n = t.length - l) : Ins w g (.slice (some ⟨g, l, none⟩) n cap) (t.drop l) := by
  have e : (t.drop l).length = t.length - l := by rw [List.length_drop]
  refine ⟨_, l, cap, by rw [e, hn], fun i hi => ⟨rfl, (h (l + i) (by omega)).1, ?_⟩⟩
  rw [(h (l + i) (by omega)).2]
  simp [List.getD]
theorem irow_cells {w : World} {B : Nat} {v : Value} {l : List Nat} (h : w.ownsRow B 3 1 v l.length (l.map iv)) (h0 : 0 < l.length) : ∃ g cap, v = .slice (some ⟨g, 0, none⟩) l.length cap ∧ l.length ≤ cap ∧ B ≤ g ∧ ∀ i, i < l.length → g < w.heap.size ∧ w.cell? ⟨g, i, none⟩ = some (.int .i64 (l.getD i 0 : Nat)) := by
  rcases h.2 with ⟨_, h1⟩ | ⟨g, cap, cur, hv, hb, hh, hc, _, _, ht⟩
  · omega
  · refine ⟨g, cap, hv, hc, hb, fun i hi => ⟨lt_of hh, ?_⟩⟩
    rw [cell_of hh]
    have e1 : (cur.toList.take (l.length * 1))[i]? = (l.map iv)[i]? := by rw [ht]
    rw [List.getElem?_take_of_lt (by omega)] at e1
    rw [← Array.getElem?_toList, e1]
    simp [iv, List.getD, hi]

theorem rinfoI : (Tryd.prog.info? 30).map (fun i => (i.zero, i.size, i.bytes)) = some (some (.slice none 0 0), 1, 24) := by kernel_rfl
theorem news_of {w : World} {g : Nat} {l : List Nat} (h : ∀ i, i < l.length → w.cell? ⟨g, i, none⟩ = some (.int .i64 (l.getD i 0 : Nat))) : ∀ j u, (l.map iv)[j]? = some u → w.cell? ((⟨g, 0, none⟩ : Addr).add j) = some u := by
  intro j u hj
  have hl : j < l.length := by
    rcases Nat.lt_or_ge j l.length with h | h
    · exact h
    · rw [List.getElem?_eq_none (by rw [List.length_map]; exact h)] at hj; cases hj
  have e : (⟨g, 0, none⟩ : Addr).add j = ⟨g, j, none⟩ := by unfold Addr.add; split <;> simp_all
  rw [e, h j hl, ← hj]
  simp [iv, List.getD, hl]
theorem ins_ivs {w : World} {b n c : Nat} {t : TypeId} {l : List Nat} (h : w.heap[b]? = some (.cells (ivs l) t (0, 0))) (hn : n = l.length) : Ins w b (.slice (some ⟨b, 0, none⟩) n c) l :=
  ⟨_, 0, c, by rw [hn], fun i hi => ⟨rfl, lt_of h, by rw [Nat.zero_add, cell_of h]; exact ivs_get hi⟩⟩
/-- A number, whether the flag is set or not. -/
theorem rnum_u (B rb n : Nat) (K : List Nat) (d : List UInt8) (lim p t : Nat) (x : Rf.D) (w : World) (s : DS) (h : RL B rb K d lim { x with pos := p, st := t } w s) (ht : t = 0 ∨ t = 2) (h0 : 0 < n) (h16 : n ≤ 16) :
    Calls Tryd.prog 64 #[.pointer (some ⟨rb, 0, none⟩), .int .i64 n] w fun e w' => Fr (One rb) w w' ∧ ∃ v p' t' s', e = .returned (.int .i64 (v : Nat)) ∧ v < 65536 ∧ RL B rb K d lim { x with pos := p', st := t' } w' s' ∧ Same s' s ∧
      ((t = 0 ∧ t' = 0 ∧ Gz.num d n p = .ok (v, p')) ∨ (t' = 2 ∧ (t = 2 ∨ Gz.num d n p = .error 2))) := by
  rcases ht with rfl | rfl
  · refine (rnum_any B rb n K d lim { x with pos := p, st := 0 } w s h rfl h16).mono ?_
    rintro e w' ⟨hf, hres⟩
    refine ⟨hf, ?_⟩
    cases hn : Gz.num d n p with
    | ok okk =>
      obtain ⟨v, q⟩ := okk
      simp only [hn] at hres
      exact ⟨v, q, 0, _, hres.1, hres.2.1, hres.2.2.2.2, ⟨rfl, rfl, rfl, rfl⟩, Or.inl ⟨rfl, rfl, rfl⟩⟩
    | error k =>
      simp only [hn] at hres
      obtain ⟨rfl, ⟨v, hv, rfl⟩, q, hL⟩ := hres
      exact ⟨v, p, 2, _, rfl, hv, hL, ⟨rfl, rfl, rfl, rfl⟩, Or.inr ⟨rfl, Or.inr rfl⟩⟩
  · refine (rnum_dead B rb n K d lim { x with pos := p, st := 2 } w s h rfl h0 h16).mono ?_
    rintro e w' ⟨hf, ⟨v, hv, rfl⟩, q, hL⟩
    exact ⟨hf, v, p, 2, _, rfl, hv, hL, ⟨rfl, rfl, rfl, rfl⟩, Or.inr ⟨rfl, Or.inl rfl⟩⟩

/-- How lengths comes to its end. -/
def RLensP (B rb : Nat) (K : List Nat) (d : List UInt8) (lim : Nat) (x : Rf.D) (w : World) (r : Gz.Out (List Nat × List Nat)) (e : Ending) (w' : World) : Prop :=
  Fr (Own B K) w w' ∧ match r with
  | .ok ((a, b), q) => ∃ L s' va vb ba bb, e = .returned (.tuple #[va, vb]) ∧ RL B rb (L ++ K) d lim { x with pos := q, keys := x.keys ++ [a ++ b] } w' s' ∧ ba ∈ L ∧ bb ∈ L ∧ Ins w' ba va a ∧ Ins w' bb vb b ∧ Lens a ∧ Lens b ∧ a.length = 286 ∧ b.length = 30
  | .error k => k ≠ 0 ∧ e = .returned (.tuple #[.slice none 0 0, .slice none 0 0]) ∧ ∃ L s', RL B rb (L ++ K) d lim { x with st := k } w' s'

set_option maxRecDepth 100000 in
set_option maxHeartbeats 12800000 in
theorem rlengths_any (B rb : Nat) (K : List Nat) (d : List UInt8) (lim : Nat) (x : Rf.D) (w : World) (s : DS) (h : RL B rb K d lim x w s) (h0 : x.st = 0) (hO : OrdAt w) (hB : 11 < B) (hroom : x.keys.length < x.pos) :
    Calls Tryd.prog 67 #[.pointer (some ⟨rb, 0, none⟩)] w (RLensP B rb K d lim x w (Rf.lens d x.pos)) := by
  have hdl := h.dlen
  have hp := h.pos h0
  have hrbl := h.da.lt
  have hbsz := h.bsz
  have hbrb := h.brb
  have k1 := h.da.c1
  rw [hp.1] at k1
  have HU : Hid (Rf.lens d x.pos = (Gz.num d 5 x.pos).bind fun a p1 => (Gz.num d 5 p1).bind fun b p2 => (Gz.num d 4 p2).bind fun c p3 =>
    if 286 < a + 257 ∨ 30 < b + 1 then .error 5 else
    (Gz.tellGo d (c + 4) 0 (List.replicate 19 0) p3).bind fun f p4 => if Gz.complete f then
      (Gz.told d (Gz.makeCode f) (a + 257 + (b + 1)) p4).bind fun l p5 =>
        if Rf.right (l.take (a + 257)) (l.drop (a + 257)) then .ok ((Gz.wide (l.take (a + 257)) 286, Gz.wide (l.drop (a + 257)) 30), p5) else .error 5
      else .error 5) := rfl
  have hx0 : RL B rb K d lim { x with pos := x.pos, st := 0 } w s := by rw [← h0]; exact h
  have HN1 := hide (rnum_u B rb 5 K d lim x.pos 0 x w s hx0 (Or.inl rfl) (by omega) (by omega))
  have HH := hide h
  have H0 := hide h0
  have HO := hide hO
  clear h h0 hO hx0
  generalize Rf.lens d x.pos = R at *
  have hmk : ∀ w : World, (Instr.makeSlice 30 (.int .i64 19) (.int .i64 19)).run Tryd.prog w = .ok (.slice (some ⟨w.heap.size, 0, none⟩) 19 19) (w.alloc (.cells (madeCells #[.int .i64 0] 19) 3)) := run_make_row' (P := Tryd.prog) 30 3 (.int .i64 0) 8 Tryd.underlying30 rinfo3 rfl .i64 .i64 19 (by omega) (by omega)
  go_enter Tryd.func67, Tryd.ntmps67
  go_wp2_with fail
  refine HN1.out.mono ?_
  rintro e w1 ⟨hf1, v1, p1, t1, s1, rfl, hv1, hL1, _, hr1⟩
  have HN2 := hide (rnum_u B rb 5 K d lim p1 t1 x w1 s1 hL1 (by rcases hr1 with h | h; exact Or.inl h.2.1; exact Or.inr h.1) (by omega) (by omega))
  have HF1 := hide hf1
  have HR1 := hide hr1
  clear hf1 hL1 hr1 HN1
  go_wp2_with fail
  refine HN2.out.mono ?_
  rintro e w2 ⟨hf2, v2, p2, t2, s2, rfl, hv2, hL2, _, hr2⟩
  have HN3 := hide (rnum_u B rb 4 K d lim p2 t2 x w2 s2 hL2 (by rcases hr2 with h | h; exact Or.inl h.2.1; exact Or.inr h.1) (by omega) (by omega))
  have HF2 := hide (HF1.out.trans hf2)
  have HR2 := hide hr2
  clear hf2 hL2 hr2 HN2
  go_wp2_with fail
  refine HN3.out.mono ?_
  rintro e w3 ⟨hf3, v3, p3, t3, s3, rfl, hv3, hL3, _, hr3⟩
  have HF3 := hide (HF2.out.trans hf3)
  have HL3 := hide hL3
  have hsz3 := HF3.out.size
  have hcase : (t3 = 2 ∧ R = .error 2) ∨ (t3 = 0 ∧ Gz.num d 5 x.pos = .ok (v1, p1) ∧ Gz.num d 5 p1 = .ok (v2, p2) ∧ Gz.num d 4 p2 = .ok (v3, p3)) := by
    rcases HR1.out with ⟨_, a1, a2⟩ | ⟨a1, a2⟩
    · rcases HR2.out with ⟨_, b1, b2⟩ | ⟨b1, b2⟩
      · rcases hr3 with ⟨_, c1, c2⟩ | ⟨c1, c2⟩
        · exact Or.inr ⟨c1, a2, b2, c2⟩
        · refine Or.inl ⟨c1, ?_⟩
          rcases c2 with c2 | c2
          · omega
          · rw [HU.out, a2]; simp only [Gz.Out.bind]; rw [b2]; simp only [c2]
      · have ht3 : t3 = 2 := by rcases hr3 with h | h; omega; exact h.1
        refine Or.inl ⟨ht3, ?_⟩
        rcases b2 with b2 | b2
        · omega
        · rw [HU.out, a2]; simp only [Gz.Out.bind]; rw [b2]
    · have ht2 : t2 = 2 := by rcases HR2.out with h | h; omega; exact h.1
      have ht3 : t3 = 2 := by rcases hr3 with h | h; omega; exact h.1
      refine Or.inl ⟨ht3, ?_⟩
      rcases a2 with a2 | a2
      · omega
      · rw [HU.out, a2]; rfl
  clear hf3 hL3 hr3 HN3 HR1 HR2
  rcases hcase with ⟨ht3, hR⟩ | ⟨ht3, q1, q2, q3⟩
  · subst ht3
    obtain ⟨k, hk⟩ : ∃ k, k = 2 := ⟨_, rfl⟩
    have hk0 : k ≠ 0 := by omega
    have HL := HL3
    rw [← hk] at HL
    have HD := hide hR
    rw [← hk] at HD
    have HFX := hide (HH.out.one HF3.out)
    have k2 : w3.cell? ⟨rb, 2, none⟩ = some (.bool true) := by rw [HL3.out.da.c2, HL3.out.sh]; rfl
    have HKK := hide hk
    clear hR HL3 hk
    go_wp2_with fail
    go_loopw [9] (fun i wr => i = .int .i64 0 ∧ Hid (wr = w3.alloc (.cells (madeCells #[.int .i64 0] 19) 3))) (fun _ _ => 0)
    case atStart => exact ⟨rfl, rfl⟩
    case round =>
      obtain ⟨rfl, hww⟩ := hrel
      have hfx : Fr No w3 wr := by rw [hww.out]; exact (Fr.refl _ _).alloc _
      have HL := hide (HL.out.no hfx)
      have HFX := hide (HFX.out.trans hfx.of_no)
      clear hww hfx
      have HOKB := hide (rok_bad HL.out hk0)
      have HOKQ : Hid (∀ q, Calls Tryd.prog 42 #[.pointer (some ⟨rb, 0, none⟩)] (wr.drewN q) fun e w' => e = .returned (.bool false) ∧ w' = wr.drewN q) := fun q => rok_bad (HL.out.no ((Fr.refl _ _).drewN _)) hk0
      have hk2 : k = 2 := HKK.out
      have k2 : wr.cell? ⟨rb, 2, none⟩ = some (.bool true) := by rw [HL.out.da.c2, HL.out.sh]; show some (Value.bool (k == 2)) = _; rw [hk2]; rfl
      have k1' := HL.out.da.c1
      have e1' := HL.out.da.fz 1
      go_wp2_with (go_at_call 42; refine HOKB.out.mono ?_; rintro e w' ⟨rfl, hw⟩; obtain rfl := hw.symm)
      go_quiet (first | (go_at_call 42; exact Calls.quiet_of_same (HOKQ.out _)))
      go_wp2_with (go_at_call 42; refine (HOKQ.out _).mono ?_; rintro e w' ⟨rfl, hw⟩; subst hw)
      go_ret2
      have hf3 : Fr (One rb) wr ((wr.drewN nq).setCell ⟨rb, 1, none⟩ (.int .i64 (x.pos : Nat))) := ((Fr.refl _ _).drewN _).setCell (fun _ => one_self rb) _
      have hL3 := HL.out.of (x' := { x with st := k }) hf3 ((Da.drewN HL.out.da _).s1 (x.pos : Nat) x.pos rfl) rfl rfl rfl rfl rfl rfl rfl rfl HL.out.sh HL.out.er (fun e => absurd e hk0)
      refine ⟨HFX.out.trans (HL.out.one hf3), ?_⟩
      rw [HD.out]
      exact ⟨hk0, rfl, [], _, hL3⟩
  · subst ht3
    have hx3 : x.pos ≤ p3 := by have := (num_ok q1).1; have := (num_ok q2).1; have := (num_ok q3).1; omega
    have b1 := num_val q1
    have b2 := num_val q2
    have b3 := num_val q3
    have hU2 : R = if 286 < v1 + 257 ∨ 30 < v2 + 1 then .error 5 else
        (Gz.tellGo d (v3 + 4) 0 (List.replicate 19 0) p3).bind fun f p4 => if Gz.complete f then
          (Gz.told d (Gz.makeCode f) (v1 + 257 + (v2 + 1)) p4).bind fun l p5 =>
            if Rf.right (l.take (v1 + 257)) (l.drop (v1 + 257)) then .ok ((Gz.wide (l.take (v1 + 257)) 286, Gz.wide (l.drop (v1 + 257)) 30), p5) else .error 5
          else .error 5 := by
      rw [HU.out, q1]; simp only [Gz.Out.bind]; rw [q2]; simp only [q3]
    have HU2 := hide hU2
    have k2 : w3.cell? ⟨rb, 2, none⟩ = some (.bool false) := by rw [HL3.out.da.c2, HL3.out.sh]; rfl
    clear q1 q2 q3 hU2 HU
    by_cases hbig : 286 < v1 + 257 ∨ 30 < v2 + 1
    · obtain ⟨k, hk⟩ : ∃ k, k = 5 := ⟨_, rfl⟩
      have hk0 : k ≠ 0 := by omega
      have HD : Hid (R = .error k) := by unfold Hid; rw [HU2.out, if_pos hbig, hk]
      have k3 := HL3.out.da.c3
      have e3 := HL3.out.da.fz 3
      have hf4 := one_set rb 3 w3 (.int .i64 5)
      have hL4 := HL3.out.of (x' := { x with pos := p3, st := k }) hf4 (HL3.out.da.s3 5 5 rfl) rfl rfl rfl rfl rfl rfl rfl rfl (by rw [hk]; exact HL3.out.sh) (by rw [hk]; rfl) (fun e => absurd e hk0)
      have HL := hide hL4
      have HFX := hide (HH.out.one (HF3.out.trans hf4))
      clear hL4 hf4
      have HKK := hide hk
      clear hk
      obtain ⟨w4, hw4⟩ : ∃ w4, w4 = w3.setCell ⟨rb, 3, none⟩ (.int .i64 5) := ⟨_, rfl⟩
      rw [← hw4] at HL HFX
      have HW4 := hide hw4
      clear hw4
      have hbig2 : (286 < (v1 : Int) + 257) ∨ (30 < (v2 : Int) + 1) := by omega
      by_cases hb1 : 286 < (v1 : Int) + 257
      · clear hbig2 hbig
        go_wp2_with fail
        go_loopw [9] (fun i wr => i = .int .i64 0 ∧ Hid (wr = (w3.setCell ⟨rb, 3, none⟩ (.int .i64 5)).alloc (.cells (madeCells #[.int .i64 0] 19) 3))) (fun _ _ => 0)
        case atStart => exact ⟨rfl, rfl⟩
        case round =>
          obtain ⟨rfl, hww⟩ := hrel
          have hfx : Fr No w4 wr := by rw [hww.out, HW4.out]; exact (Fr.refl _ _).alloc _
          have HL := hide (HL.out.no hfx)
          have HFX := hide (HFX.out.trans hfx.of_no)
          clear hww hfx
          have HOKB := hide (rok_bad HL.out hk0)
          have HOKQ : Hid (∀ q, Calls Tryd.prog 42 #[.pointer (some ⟨rb, 0, none⟩)] (wr.drewN q) fun e w' => e = .returned (.bool false) ∧ w' = wr.drewN q) := fun q => rok_bad (HL.out.no ((Fr.refl _ _).drewN _)) hk0
          have hk2 : ¬ k = 2 := by have := HKK.out; omega
          have k2 : wr.cell? ⟨rb, 2, none⟩ = some (.bool false) := by rw [HL.out.da.c2, HL.out.sh]; show some (Value.bool (k == 2)) = _; rw [show (k == 2) = false by rw [beq_eq_false_iff_ne]; exact hk2]
          go_wp2_with (go_at_call 42; refine HOKB.out.mono ?_; rintro e w' ⟨rfl, hw⟩; obtain rfl := hw.symm)
          go_quiet (first | (go_at_call 42; exact Calls.quiet_of_same (HOKQ.out _)))
          go_wp2_with (go_at_call 42; refine (HOKQ.out _).mono ?_; rintro e w' ⟨rfl, hw⟩; subst hw)
          go_ret2
          have hf3 : Fr (One rb) wr (wr.drewN nq) := (Fr.refl _ _).drewN _
          have hL3 := HL.out.of (x' := { x with st := k }) hf3 (Da.drewN HL.out.da _) rfl rfl rfl rfl rfl rfl rfl rfl HL.out.sh HL.out.er (fun e => absurd e hk0)
          refine ⟨HFX.out.trans (HL.out.one hf3), ?_⟩
          rw [HD.out]
          exact ⟨hk0, rfl, [], _, hL3⟩
      · have hb2 : 30 < (v2 : Int) + 1 := by omega
        clear hbig2 hbig
        go_wp2_with fail
        go_loopw [9] (fun i wr => i = .int .i64 0 ∧ Hid (wr = (w3.setCell ⟨rb, 3, none⟩ (.int .i64 5)).alloc (.cells (madeCells #[.int .i64 0] 19) 3))) (fun _ _ => 0)
        case atStart => exact ⟨rfl, rfl⟩
        case round =>
          obtain ⟨rfl, hww⟩ := hrel
          have hfx : Fr No w4 wr := by rw [hww.out, HW4.out]; exact (Fr.refl _ _).alloc _
          have HL := hide (HL.out.no hfx)
          have HFX := hide (HFX.out.trans hfx.of_no)
          clear hww hfx
          have HOKB := hide (rok_bad HL.out hk0)
          have HOKQ : Hid (∀ q, Calls Tryd.prog 42 #[.pointer (some ⟨rb, 0, none⟩)] (wr.drewN q) fun e w' => e = .returned (.bool false) ∧ w' = wr.drewN q) := fun q => rok_bad (HL.out.no ((Fr.refl _ _).drewN _)) hk0
          have hk2 : ¬ k = 2 := by have := HKK.out; omega
          have k2 : wr.cell? ⟨rb, 2, none⟩ = some (.bool false) := by rw [HL.out.da.c2, HL.out.sh]; show some (Value.bool (k == 2)) = _; rw [show (k == 2) = false by rw [beq_eq_false_iff_ne]; exact hk2]
          go_wp2_with (go_at_call 42; refine HOKB.out.mono ?_; rintro e w' ⟨rfl, hw⟩; obtain rfl := hw.symm)
          go_quiet (first | (go_at_call 42; exact Calls.quiet_of_same (HOKQ.out _)))
          go_wp2_with (go_at_call 42; refine (HOKQ.out _).mono ?_; rintro e w' ⟨rfl, hw⟩; subst hw)
          go_ret2
          have hf3 : Fr (One rb) wr (wr.drewN nq) := (Fr.refl _ _).drewN _
          have hL3 := HL.out.of (x' := { x with st := k }) hf3 (Da.drewN HL.out.da _) rfl rfl rfl rfl rfl rfl rfl rfl HL.out.sh HL.out.er (fun e => absurd e hk0)
          refine ⟨HFX.out.trans (HL.out.one hf3), ?_⟩
          rw [HD.out]
          exact ⟨hk0, rfl, [], _, hL3⟩
    · obtain ⟨TG, hTG⟩ : ∃ TG, TG = Gz.tellGo d (v3 + 4) 0 (List.replicate 19 0) p3 := ⟨_, rfl⟩
      have HU3 : Hid (R = TG.bind fun f p4 => if Gz.complete f then
          (Gz.told d (Gz.makeCode f) (v1 + 257 + (v2 + 1)) p4).bind fun l p5 =>
            if Rf.right (l.take (v1 + 257)) (l.drop (v1 + 257)) then .ok ((Gz.wide (l.take (v1 + 257)) 286, Gz.wide (l.drop (v1 + 257)) 30), p5) else .error 5
          else .error 5) := by unfold Hid; rw [HU2.out, if_neg hbig, hTG]
      have HTG := hide hTG
      have hn1 : ¬ (286 : Int) < (v1 : Int) + 257 := by omega
      have hn2 : ¬ (30 : Int) < (v2 : Int) + 1 := by omega
      have hbb1 : v1 + 257 ≤ 286 := by omega
      have hbb2 : v2 + 1 ≤ 30 := by omega
      have hfa : Fr No w3 (w3.alloc (.cells (madeCells #[.int .i64 0] 19) 3)) := (Fr.refl _ _).alloc _
      have hFB0 := alloc_at w3 (.cells (madeCells #[.int .i64 0] 19) 3)
      rw [made_zero] at hFB0
      have HFA := hide hfa
      have HFB0 := hide hFB0
      clear hTG hbig HU2 hfa hFB0
      go_wp2_with fail
      go_loopw [9] (fun i wr => ∃ (k : Nat) (fl : List Nat) (p t : Nat) (s' : DS), k ≤ v3 + 4 ∧ i = .int .i64 k ∧ fl.length = 19 ∧ Hid (t = 0 → Lens fl) ∧ Hid (t = 0 ∨ t = 2) ∧ Hid ((t = 0 → TG = Gz.tellGo d (v3 + 4 - k) k fl p) ∧ (t = 2 → TG = .error 2)) ∧ Hid (Same s' s3) ∧ Hid (t = 0 → x.pos ≤ p) ∧ RL B rb K d lim { x with pos := p, st := t } wr s' ∧ Hid (wr.heap[w3.heap.size]? = some (.cells (ivs fl) 3 (0, 0))) ∧ Fr (One rb) w3 wr) (fun i _ => v3 + 4 - (intOf i).toNat)
      case atStart => exact ⟨0, List.replicate 19 0, p3, 0, s3, Nat.zero_le _, rfl, by simp, (fun _ i hi => by rw [List.getD, List.getElem?_replicate]; split <;> simp), Or.inl rfl, ⟨fun _ => HTG.out, fun e => by omega⟩, ⟨rfl, rfl, rfl, rfl⟩, (fun _ => hx3), HL3.out.no HFA.out, by unfold Hid; rw [← made_zero]; exact alloc_at w3 _, HFA.out.of_no⟩
      case round =>
        obtain ⟨k, fl, p, t, s', hk, rfl, hfl, hlens, ht, htg, hsm, hxp, hLr, HFB, hfr⟩ := hrel
        have HOR : Hid (OrdAt wr) := (HO.out.fr HF3.out (one_ne (by omega)) (by omega)).fr hfr (one_ne (by omega)) (by omega)
        have hszr := hfr.size
        have hFBlt := lt_of HFB.out
        rcases ht.out with rfl | rfl
        · have HLE0 : Hid (Lens fl) := hlens.out rfl
          have HTG0 : Hid (TG = Gz.tellGo d (v3 + 4 - k) k fl p) := htg.out.1 rfl
          have hxp := hxp.out rfl
          clear hlens htg ht
          by_cases hkn : k < v3 + 4
          · obtain ⟨m', hm⟩ : ∃ m', v3 + 4 - k = m' + 1 := ⟨v3 + 4 - k - 1, by omega⟩
            obtain ⟨od, hod⟩ : ∃ od, od = Gz.order.getD k 0 := ⟨_, rfl⟩
            have hod19 := order_le k (by omega)
            rw [← hod] at hod19
            have htell := HOR.out k (by omega)
            rw [← hod] at htell
            have HOD := hide hod
            clear hod
            have hodz : (od : Int) < 19 := by omega
            have hkz : (k : Int) < 19 := by omega
            have colds := (cell_of HFB.out od).trans (ivs_get (by omega))
            have folds := frozen_of HFB.out od
            have HOK := hide (rok_good hLr rfl)
            go_upto_region 11 with (go_at_call 42; refine HOK.out.mono ?_; rintro e w' ⟨rfl, hw⟩; obtain rfl := hw.symm)
            refine wp_region_any (by kernel_rfl) ?_
            change wpAny _ _ _ _ _ _ _ (World.drew _)
            refine wpAny_take (i := 0) (v := ?_) rfl (by kernel_rfl) (by kernel_rfl) (by kernel_rfl) (fun _ _ _ h => h) (Or.inl ⟨by rfl, by intro w; go_simp; with_reducible rfl⟩) ?_
            refine wpAny_take (i := 1) (v := ?_) rfl (by kernel_rfl) (by kernel_rfl) (by kernel_rfl) (fun _ _ _ h => h) (Or.inl ⟨by rfl, by intro w; go_simp; with_reducible rfl⟩) ?_
            refine wpAny_take (i := 2) (v := ?_) rfl (by kernel_rfl) (by kernel_rfl) (by kernel_rfl) (fun _ _ _ h => h) (Or.inl ⟨by rfl, by intro w; go_simp; with_reducible rfl⟩) ?_
            refine wpAny_take (i := 4) (v := ?_) rfl (by kernel_rfl) (by kernel_rfl) (by kernel_rfl) (fun _ _ _ h => h) (Or.inl ⟨by rfl, by intro w; go_simp; with_reducible rfl⟩) ?_
            refine wpAny_ready (rs := [3, 5]) (by kernel_rfl) (by simp) ?_
            refine AllReady.cons rfl (fun Kc hK => ?_) ?_
            · go_simp
              refine hK _ _ ?_
              clear hK Kc
              refine wpAny_ready (rs := [5]) (by kernel_rfl) (by simp) ?_
              refine AllReady.cons rfl (fun Kc hK => ?_) AllReady.nil
              go_simp
              refine (rnum_u B rb 3 K d lim p 0 x (World.drew wr) s' (by exact hLr.no ((Fr.refl _ _).drew)) (Or.inl rfl) (by omega) (by omega)).mono ?_
              rintro e w4 ⟨hf4, v4, p4, t4, s4, rfl, hv4, hL4, hsm4, hr4⟩
              have hf4' : Fr (One rb) wr w4 := Fr.trans ((Fr.refl _ _).drew) hf4
              have htell2 := (HOR.out.fr hf4' (one_ne (by omega)) (by omega)) k (by omega)
              rw [← HOD.out] at htell2
              have hL1 := hf4'.at HFB.out (one_ne (by omega))
              have co1 := (cell_of hL1 od).trans (ivs_get (by omega))
              have fo1 := frozen_of hL1 od
              refine hK _ _ ?_
              clear hK Kc
              refine wpAny_take (i := 6) (v := ?_) rfl (by kernel_rfl) (by kernel_rfl) (by kernel_rfl) (fun _ _ _ h => h) (Or.inl ⟨by rfl, by intro w; go_simp; with_reducible rfl⟩) ?_
              refine wpAny_ready (rs := [7]) (by kernel_rfl) (by simp) ?_
              refine AllReady.cons rfl (fun Kc hK => ?_) AllReady.nil
              go_simp
              refine hK _ _ ?_
              clear hK Kc
              refine wpAny_done (by kernel_rfl) ?_ _
              have HR4 := hide hr4
              have HL4 := hide hL4
              clear hr4 hL4
              go_wp2_with fail
              have hf5 : Fr (One rb) w3 (w4.setCell ⟨w3.heap.size, od, none⟩ (.int .i64 (v4 : Nat))) := (hfr.trans hf4').setCell (fun e => absurd e (Nat.lt_irrefl _)) _
              have hda5 : Da (w4.setCell ⟨w3.heap.size, od, none⟩ (.int .i64 (v4 : Nat))) rb s4 := by show (w4.setCell _ _).heap[rb]? = _; rw [set_other _ _ (by omega)]; exact HL4.out.da
              have hsm5 := hsm4.trans hsm.out
              have hL5 := HL3.out.of (x' := { x with pos := p4, st := t4 }) hf5 hda5 hsm5.1 hsm5.2.1 hsm5.2.2.1 hsm5.2.2.2 rfl rfl rfl rfl HL4.out.sh HL4.out.er HL4.out.pos
              refine ⟨⟨k + 1, fl.set od v4, p4, t4, s4, by omega, by go_num, by rw [List.length_set]; exact hfl, ?_, ?_, ?_, hsm5, ?_, hL5, ?_, hf5⟩, by simp [intOf]; omega⟩
              · intro ht4; rcases HR4.out with ⟨_, _, q⟩ | ⟨q, _⟩; exact lens_set (HLE0.out) (by have := num_val q; omega); omega
              · rcases HR4.out with ⟨_, q, _⟩ | ⟨q, _⟩; exact Or.inl q; exact Or.inr q
              · refine ⟨fun ht4 => ?_, fun ht4 => ?_⟩
                · rcases HR4.out with ⟨_, _, q⟩ | ⟨q, _⟩
                  · rw [HTG0.out, hm]; show (Gz.num d 3 p).bind _ = _; rw [q, HOD.out, show v3 + 4 - (k + 1) = m' by omega]; rfl
                  · omega
                · rcases HR4.out with ⟨_, q, _⟩ | ⟨_, q⟩
                  · omega
                  · rcases q with q | q; (omega); (rw [HTG0.out, hm]; show (Gz.num d 3 p).bind _ = _; rw [q]; rfl)
              · intro ht4; rcases HR4.out with ⟨_, _, q⟩ | ⟨q, _⟩; (have := (num_ok q).1; omega); omega
              · unfold Hid; rw [set_of hL1, ivs_set]
            refine AllReady.cons rfl (fun Kc hK => ?_) AllReady.nil
            go_simp
            refine (rnum_u B rb 3 K d lim p 0 x (World.drew wr) s' (by exact hLr.no ((Fr.refl _ _).drew)) (Or.inl rfl) (by omega) (by omega)).mono ?_
            rintro e w4 ⟨hf4, v4, p4, t4, s4, rfl, hv4, hL4, hsm4, hr4⟩
            have hf4' : Fr (One rb) wr w4 := Fr.trans ((Fr.refl _ _).drew) hf4
            have htell2 := (HOR.out.fr hf4' (one_ne (by omega)) (by omega)) k (by omega)
            rw [← HOD.out] at htell2
            have hL1 := hf4'.at HFB.out (one_ne (by omega))
            have co1 := (cell_of hL1 od).trans (ivs_get (by omega))
            have fo1 := frozen_of hL1 od
            refine hK _ _ ?_
            clear hK Kc
            refine wpAny_ready (rs := [3]) (by kernel_rfl) (by simp) ?_
            refine AllReady.cons rfl (fun Kc hK => ?_) AllReady.nil
            go_simp
            refine hK _ _ ?_
            clear hK Kc
            refine wpAny_take (i := 6) (v := ?_) rfl (by kernel_rfl) (by kernel_rfl) (by kernel_rfl) (fun _ _ _ h => h) (Or.inl ⟨by rfl, by intro w; go_simp; with_reducible rfl⟩) ?_
            refine wpAny_ready (rs := [7]) (by kernel_rfl) (by simp) ?_
            refine AllReady.cons rfl (fun Kc hK => ?_) AllReady.nil
            go_simp
            refine hK _ _ ?_
            clear hK Kc
            refine wpAny_done (by kernel_rfl) ?_ _
            have HR4 := hide hr4
            have HL4 := hide hL4
            clear hr4 hL4
            go_wp2_with fail
            have hf5 : Fr (One rb) w3 (w4.setCell ⟨w3.heap.size, od, none⟩ (.int .i64 (v4 : Nat))) := (hfr.trans hf4').setCell (fun e => absurd e (Nat.lt_irrefl _)) _
            have hda5 : Da (w4.setCell ⟨w3.heap.size, od, none⟩ (.int .i64 (v4 : Nat))) rb s4 := by show (w4.setCell _ _).heap[rb]? = _; rw [set_other _ _ (by omega)]; exact HL4.out.da
            have hsm5 := hsm4.trans hsm.out
            have hL5 := HL3.out.of (x' := { x with pos := p4, st := t4 }) hf5 hda5 hsm5.1 hsm5.2.1 hsm5.2.2.1 hsm5.2.2.2 rfl rfl rfl rfl HL4.out.sh HL4.out.er HL4.out.pos
            refine ⟨⟨k + 1, fl.set od v4, p4, t4, s4, by omega, by go_num, by rw [List.length_set]; exact hfl, ?_, ?_, ?_, hsm5, ?_, hL5, ?_, hf5⟩, by simp [intOf]; omega⟩
            · intro ht4; rcases HR4.out with ⟨_, _, q⟩ | ⟨q, _⟩; exact lens_set (HLE0.out) (by have := num_val q; omega); omega
            · rcases HR4.out with ⟨_, q, _⟩ | ⟨q, _⟩; exact Or.inl q; exact Or.inr q
            · refine ⟨fun ht4 => ?_, fun ht4 => ?_⟩
              · rcases HR4.out with ⟨_, _, q⟩ | ⟨q, _⟩
                · rw [HTG0.out, hm]; show (Gz.num d 3 p).bind _ = _; rw [q, HOD.out, show v3 + 4 - (k + 1) = m' by omega]; rfl
                · omega
              · rcases HR4.out with ⟨_, q, _⟩ | ⟨_, q⟩
                · omega
                · rcases q with q | q; (omega); (rw [HTG0.out, hm]; show (Gz.num d 3 p).bind _ = _; rw [q]; rfl)
            · intro ht4; rcases HR4.out with ⟨_, _, q⟩ | ⟨q, _⟩; (have := (num_ok q).1; omega); omega
            · unfold Hid; rw [set_of hL1, ivs_set]
          · have hkv : k = v3 + 4 := by omega
            obtain ⟨kl, hkl⟩ : ∃ kl, kl = k := ⟨_, rfl⟩
            rw [← hkl] at HTG0
            have HKL := hide hkl
            clear hkl
            have HOK := hide (rok_good hLr rfl)
            have hins := ins_ivs (c := 19) HFB.out hfl.symm
            have HCM := hide (rcomplete_any w3.heap.size _ fl wr hins HLE0.out (by omega))
            have HCD := hide (rcoded_any w3.heap.size _ fl wr hins HLE0.out (by omega) (by omega))
            have HIN := hide hins
            clear hins
            rw [hfl] at HCD
            go_wp2_with fail
            refine HOK.out.mono ?_
            rintro e w' ⟨rfl, hw⟩
            obtain rfl := hw.symm
            go_wp2_with fail
            refine HCM.out.mono ?_
            rintro e w' ⟨rfl, hw⟩
            obtain rfl := hw.symm
            cases hcm : Gz.complete fl with
            | false =>
              have hkl2 : kl = v3 + 4 := by have := HKL.out; omega
              obtain ⟨k, hke⟩ : ∃ k, k = 5 := ⟨_, rfl⟩
              have hk0 : k ≠ 0 := by omega
              have HD : Hid (R = .error k) := by unfold Hid; rw [HU3.out, HTG0.out, show v3 + 4 - kl = 0 by omega]; show (if Gz.complete fl then _ else _) = _; rw [hcm, hke]; rfl
              have HKK := hide hke
              have k3 := hLr.da.c3
              have e3 := hLr.da.fz 3
              have hf4 := one_set rb 3 wr (.int .i64 5)
              have hL4 := hLr.of (x' := { x with pos := p, st := k }) hf4 (hLr.da.s3 5 5 rfl) rfl rfl rfl rfl rfl rfl rfl rfl (by rw [hke]; exact hLr.sh) (by rw [hke]; rfl) (fun e => absurd e hk0)
              have HL := hide hL4
              have HFX := hide (HH.out.one ((HF3.out.trans hfr).trans hf4))
              clear hL4 hf4 hke hcm HU3 HTG0
              go_wp2_with fail
              generalize wr.setCell ⟨rb, 3, none⟩ (.int .i64 5) = w5 at *
              have HOKB := hide (rok_bad HL.out hk0)
              have HOKQ : Hid (∀ q, Calls Tryd.prog 42 #[.pointer (some ⟨rb, 0, none⟩)] (w5.drewN q) fun e w' => e = .returned (.bool false) ∧ w' = w5.drewN q) := fun q => rok_bad (HL.out.no ((Fr.refl _ _).drewN _)) hk0
              have hk2 : ¬ k = 2 := by have := HKK.out; omega
              have k2 : w5.cell? ⟨rb, 2, none⟩ = some (.bool false) := by rw [HL.out.da.c2, HL.out.sh]; show some (Value.bool (k == 2)) = _; rw [show (k == 2) = false by rw [beq_eq_false_iff_ne]; exact hk2]
              refine HOKB.out.mono ?_
              rintro e w' ⟨rfl, hw⟩
              obtain rfl := hw.symm
              go_wp2_with (go_at_call 42; refine HOKB.out.mono ?_; rintro e w' ⟨rfl, hw⟩; obtain rfl := hw.symm)
              go_quiet (first | (go_at_call 42; exact Calls.quiet_of_same (HOKQ.out _)))
              go_wp2_with (go_at_call 42; refine (HOKQ.out _).mono ?_; rintro e w' ⟨rfl, hw⟩; subst hw)
              go_ret2
              have hf3 : Fr (One rb) w5 (w5.drewN nq) := (Fr.refl _ _).drewN _
              have hL3 := HL.out.of (x' := { x with st := k }) hf3 (Da.drewN HL.out.da _) rfl rfl rfl rfl rfl rfl rfl rfl HL.out.sh HL.out.er (fun e => absurd e hk0)
              refine ⟨HFX.out.trans (HL.out.one hf3), ?_⟩
              rw [HD.out]
              exact ⟨hk0, rfl, [], _, hL3⟩
            | true =>
              have hkl2 : kl = v3 + 4 := by have := HKL.out; omega
              have HU4 : Hid (R = (Gz.told d (Gz.makeCode fl) (v1 + 257 + (v2 + 1)) p).bind fun l p5 =>
                        if Rf.right (l.take (v1 + 257)) (l.drop (v1 + 257)) then .ok ((Gz.wide (l.take (v1 + 257)) 286, Gz.wide (l.drop (v1 + 257)) 30), p5) else .error 5) := by
                unfold Hid; rw [HU3.out, HTG0.out, show v3 + 4 - kl = 0 by omega]; show (if Gz.complete fl then _ else _) = _; rw [hcm]; rfl
              clear hcm HU3 HTG0 HCM
              go_wp2_with fail
              refine HOK.out.mono ?_
              rintro e w' ⟨rfl, hw⟩
              obtain rfl := hw.symm
              go_wp2_with fail
              refine HCD.out.mono ?_
              rintro e w6 ⟨g, hg, rfl, hgc, hf6⟩
              have hf7 : Fr No wr (w6.alloc (.cells #[.slice (some ⟨w3.heap.size, 0, none⟩) 19 19, .slice (some ⟨g, 0, none⟩) 19 19] 117)) := hf6.alloc _
              have hf37 : Fr (One rb) w3 (w6.alloc (.cells #[.slice (some ⟨w3.heap.size, 0, none⟩) 19 19, .slice (some ⟨g, 0, none⟩) 19 19] 117)) := hfr.trans hf7.of_no
              have hgl := lt_of hgc
              have hL7 := HL3.out.ofL (L := [w3.heap.size, g]) (x' := { x with pos := p, st := 0 }) hf37 (hLr.no hf7).da hsm.out (fun k hk => by simp at hk ⊢; have := hf6.size; omega) rfl rfl rfl rfl hLr.sh hLr.er hLr.pos
              obtain ⟨KK, hKK⟩ : ∃ KK, KK = [w3.heap.size, g] ++ K := ⟨_, rfl⟩
              rw [← hKK] at hL7
              have hci : CodeIn (w6.alloc (.cells #[.slice (some ⟨w3.heap.size, 0, none⟩) 19 19, .slice (some ⟨g, 0, none⟩) 19 19] 117)) KK (.agg #[.slice (some ⟨w3.heap.size, 0, none⟩) 19 19, .slice (some ⟨g, 0, none⟩) 19 19]) fl := by
                refine ⟨w3.heap.size, g, _, _, rfl, by rw [hKK]; simp, by rw [hKK]; simp, ?_, ?_, HLE0.out, by omega, by omega⟩
                · exact HIN.out.fr hf7 (no_no _)
                · exact ins_ivs (n := 19) (c := 19) (alloc_old hgc) (by rw [codes_len, hfl])
              have HTD := hide (rtold_any B rb (v1 + 257 + (v2 + 1)) KK d lim _ _ _ _ fl hL7 rfl hci (by omega) (by omega))
              have HF7 := hide (HF3.out.trans hf37)
              have HL7 := hide hL7
              have hszz := hf37.size
              have HKK := hide hKK
              clear hL7 hci hf37 hf7 hf6 hgc hKK HCD HOK hg hgl HIN
              go_wp2_with fail
              rw [show ((v1 + 257 + (v2 + 1) : Nat) : Int) = (v1 : Int) + 257 + ((v2 : Int) + 1) by omega] at HTD
              refine HTD.out.mono ?_
              rintro e w8 ⟨hf8, hres⟩
              have HF8 := hide (HF7.out.trans hf8)
              have hsz8 := hf8.size
              clear hf8 HTD
              have hszw8 : w3.heap.size ≤ w8.heap.size := by omega
              cases htd : Gz.told d (Gz.makeCode fl) (v1 + 257 + (v2 + 1)) p with
              | error k =>
                simp only [htd] at hres
                obtain ⟨hk0, ⟨a', m', c', rfl⟩, q, hL8⟩ := hres
                have HD : Hid (R = .error k) := by unfold Hid; rw [HU4.out, htd]; rfl
                have HL := hide hL8
                rw [HKK.out] at HL
                have HFX := hide (HH.out.one HF8.out)
                clear hL8 htd HU4
                have HOKB := hide (rok_bad HL.out hk0)
                have HOKQ : Hid (∀ q, Calls Tryd.prog 42 #[.pointer (some ⟨rb, 0, none⟩)] (w8.drewN q) fun e w' => e = .returned (.bool false) ∧ w' = w8.drewN q) := fun q => rok_bad (HL.out.no ((Fr.refl _ _).drewN _)) hk0
                by_cases hk2 : k = 2
                · have k2 : w8.cell? ⟨rb, 2, none⟩ = some (.bool true) := by rw [HL.out.da.c2, HL.out.sh]; show some (Value.bool (k == 2)) = _; rw [hk2]; rfl
                  have k1' := HL.out.da.c1
                  have e1' := HL.out.da.fz 1
                  go_wp2_with (go_at_call 42; refine HOKB.out.mono ?_; rintro e w' ⟨rfl, hw⟩; obtain rfl := hw.symm)
                  go_quiet (first | (go_at_call 42; exact Calls.quiet_of_same (HOKQ.out _)))
                  go_wp2_with (go_at_call 42; refine (HOKQ.out _).mono ?_; rintro e w' ⟨rfl, hw⟩; subst hw)
                  go_ret2
                  have hf3 : Fr (One rb) w8 ((w8.drewN nq).setCell ⟨rb, 1, none⟩ (.int .i64 (x.pos : Nat))) := ((Fr.refl _ _).drewN _).setCell (fun _ => one_self rb) _
                  have hL3 := HL.out.of (x' := { x with st := k }) hf3 ((Da.drewN HL.out.da _).s1 (x.pos : Nat) x.pos rfl) rfl rfl rfl rfl rfl rfl rfl rfl HL.out.sh HL.out.er (fun e => absurd e hk0)
                  refine ⟨HFX.out.trans (HL.out.one hf3).less, ?_⟩
                  rw [HD.out]
                  exact ⟨hk0, rfl, [w3.heap.size, g], _, hL3⟩
                · have k2 : w8.cell? ⟨rb, 2, none⟩ = some (.bool false) := by rw [HL.out.da.c2, HL.out.sh]; show some (Value.bool (k == 2)) = _; rw [show (k == 2) = false by rw [beq_eq_false_iff_ne]; exact hk2]
                  go_wp2_with (go_at_call 42; refine HOKB.out.mono ?_; rintro e w' ⟨rfl, hw⟩; obtain rfl := hw.symm)
                  go_quiet (first | (go_at_call 42; exact Calls.quiet_of_same (HOKQ.out _)))
                  go_wp2_with (go_at_call 42; refine (HOKQ.out _).mono ?_; rintro e w' ⟨rfl, hw⟩; subst hw)
                  go_ret2
                  have hf3 : Fr (One rb) w8 (w8.drewN nq) := (Fr.refl _ _).drewN _
                  have hL3 := HL.out.of (x' := { x with st := k }) hf3 (Da.drewN HL.out.da _) rfl rfl rfl rfl rfl rfl rfl rfl HL.out.sh HL.out.er (fun e => absurd e hk0)
                  refine ⟨HFX.out.trans (HL.out.one hf3).less, ?_⟩
                  rw [HD.out]
                  exact ⟨hk0, rfl, [w3.heap.size, g], _, hL3⟩
              | ok okk =>
                obtain ⟨tl, q⟩ := okk
                simp only [htd] at hres
                obtain ⟨tv, rfl, hrow, hlt, htn, hq8, hpq, hL8⟩ := hres
                have hL12keys : x.keys.length + 1 ≤ q := by have : p ≤ q := hpq; have := hxp; omega
                have hU5 : R = if Rf.right (tl.take (v1 + 257)) (tl.drop (v1 + 257)) then .ok ((Gz.wide (tl.take (v1 + 257)) 286, Gz.wide (tl.drop (v1 + 257)) 30), q) else .error 5 := by rw [HU4.out, htd]; rfl
                have HU5 := hide hU5
                obtain ⟨g2, cp2, rfl, hcap, hg2, hcel⟩ := irow_cells hrow (by omega)
                have HL8 := hide hL8
                have HOKQ : Hid (∀ q, Calls Tryd.prog 42 #[.pointer (some ⟨rb, 0, none⟩)] (w8.drewN q) fun e w' => e = .returned (.bool true) ∧ w' = w8.drewN q) := fun q => rok_good (HL8.out.no ((Fr.refl _ _).drewN _)) rfl
                have hlen1 : (tl.take (v1 + 257)).length = v1 + 257 := by rw [List.length_take]; omega
                have hlen2 : (tl.drop (v1 + 257)).length = v2 + 1 := by rw [List.length_drop]; omega
                obtain ⟨rt, hrt⟩ : ∃ rt, rt = Rf.right (tl.take (v1 + 257)) (tl.drop (v1 + 257)) := ⟨_, rfl⟩
                rw [← hrt] at HU5
                have HRQ : Hid (∀ q n1 c1 n2 c2, n1 = v1 + 257 → n2 = tl.length - (v1 + 257) → Calls Tryd.prog 29 #[.slice (some ⟨g2, 0, none⟩) n1 c1, .slice (some ⟨g2, v1 + 257, none⟩) n2 c2] (w8.drewN q) fun e w' => e = .returned (.bool rt) ∧ w' = w8.drewN q) := by
                  intro q n1 c1 n2 c2 e1 e2
                  rw [hrt]
                  exact rright_any g2 g2 _ _ _ _ _ (ins_take (fun i hi => hcel i hi) (by omega) e1) (ins_drop (fun i hi => hcel i hi) e2) (hlt.take _) (hlt.drop _) (by omega) (by omega) (by omega)
                have HCEL := hide hcel
                have HLT := hide hlt
                have HLN1 := hide hlen1
                have HLN2 := hide hlen2
                have hF : Hid (¬ (tl.length : Int) < (v1 : Int) + 257) := by unfold Hid; omega
                clear hL8 htd HU4 hU5 hrow hcel hlt hrt hlen1 hlen2
                have htn' : tl.length = v1 + 257 + (v2 + 1) := htn
                cases rt with
                | false =>
                  obtain ⟨k, hke⟩ : ∃ k, k = 5 := ⟨_, rfl⟩
                  have hk0 : k ≠ 0 := by omega
                  have HD : Hid (R = .error k) := by unfold Hid; rw [HU5.out, hke]; rfl
                  have k3 := HL8.out.da.c3
                  have e3 := HL8.out.da.fz 3
                  have k2 : w8.cell? ⟨rb, 2, none⟩ = some (.bool false) := by rw [HL8.out.da.c2, HL8.out.sh]; rfl
                  go_wp2_with fail
                  go_quiet (first | (go_at_call 42; exact Calls.quiet_of_same (HOKQ.out _)) | (go_at_call 29; exact Calls.quiet_of_same (HRQ.out _ _ _ _ _ (by omega) (by omega))))
                  go_wp2_with fail
                  have hf9 : Fr (One rb) w8 ((w8.drewN nq).setCell ⟨rb, 3, none⟩ (.int .i64 5)) := ((Fr.refl _ _).drewN _).setCell (fun _ => one_self rb) _
                  have hL9 := HL8.out.of (x' := { x with st := k }) hf9 ((Da.drewN HL8.out.da _).s3 5 5 rfl) rfl rfl rfl rfl rfl rfl rfl rfl (by rw [hke]; exact HL8.out.sh) (by rw [hke]; rfl) (fun e => absurd e hk0)
                  have HF9 := hide hf9
                  have HL9 := hide hL9
                  clear hf9 hL9 k2 k3 e3
                  generalize (w8.drewN nq).setCell ⟨rb, 3, none⟩ (.int .i64 5) = w9 at *
                  refine (rok_bad HL9.out hk0).mono ?_
                  rintro e w' ⟨rfl, hw⟩
                  obtain rfl := hw.symm
                  have k2 : w9.cell? ⟨rb, 2, none⟩ = some (.bool false) := by rw [HL9.out.da.c2, HL9.out.sh]; show some (Value.bool (k == 2)) = _; rw [hke]; rfl
                  go_wp2
                  go_ret2
                  refine ⟨HH.out.one (HF8.out.trans HF9.out), ?_⟩
                  rw [HD.out]
                  exact ⟨hk0, rfl, [w3.heap.size, g], _, HKK.out ▸ HL9.out⟩
                | true =>
                  go_wp2_with fail
                  go_quiet (first | (go_at_call 42; exact Calls.quiet_of_same (HOKQ.out _)) | (go_at_call 29; exact Calls.quiet_of_same (HRQ.out _ _ _ _ _ (by omega) (by omega))))
                  go_wp2_with fail
                  refine (HOKQ.out _).mono ?_
                  rintro e w' ⟨rfl, hw⟩
                  subst hw
                  go_wp2_with fail
                  have hA : (Gz.wide (tl.take (v1 + 257)) 286).length = 286 := by unfold Gz.wide; rw [List.length_append, List.length_replicate]; have := HLN1.out; omega
                  have hBl : (Gz.wide (tl.drop (v1 + 257)) 30).length = 30 := by unfold Gz.wide; rw [List.length_append, List.length_replicate]; have := HLN2.out; omega
                  have hLA : Lens (Gz.wide (tl.take (v1 + 257)) 286) := by unfold Gz.wide; exact lens_snoc (HLT.out.take _) 0 _ (by omega)
                  have hLB : Lens (Gz.wide (tl.drop (v1 + 257)) 30) := by unfold Gz.wide; exact lens_snoc (HLT.out.drop _) 0 _ (by omega)
                  have HW1 := hide (rwide_any g2 286 (.slice (some ⟨g2, 0, none⟩) (v1 + 257) cp2) (tl.take (v1 + 257)) (w8.drewN nq) (ins_take (fun i hi => HCEL.out i hi) (by omega) rfl) (by omega) (by have := HLN1.out; omega))
                  have HU6 : Hid (R = .ok ((Gz.wide (tl.take (v1 + 257)) 286, Gz.wide (tl.drop (v1 + 257)) 30), q)) := by unfold Hid; rw [HU5.out]; rfl
                  generalize hAA : Gz.wide (tl.take (v1 + 257)) 286 = A at *
                  generalize hBB : Gz.wide (tl.drop (v1 + 257)) 30 = Bq at *
                  have HLA := hide hLA
                  have HLB := hide hLB
                  have HAA := hide hAA
                  have HBB := hide hBB
                  clear hLA hLB hAA hBB HU5
                  refine HW1.out.mono ?_
                  rintro e w9 ⟨sv, rfl, hrow9, hf9⟩
                  have hf9 : Fr No w8 w9 := Fr.trans ((Fr.refl _ _).drewN _) hf9
                  have hrow9 : w9.ownsRow w8.heap.size 3 1 sv A.length (A.map iv) := hrow9
                  obtain ⟨ga, ca, rfl, hca, hga, hcela⟩ := irow_cells hrow9 (by omega)
                  have hgal := (hcela 0 (by omega)).1
                  have hsz9 := hf9.size
                  have hcel9 : ∀ i, i < tl.length → g2 < w9.heap.size ∧ w9.cell? ⟨g2, i, none⟩ = some (.int .i64 (tl.getD i 0 : Nat)) := fun i hi => ⟨by have := (HCEL.out i hi).1; omega, (hf9.cell (p := ⟨g2, i, none⟩) (HCEL.out i hi).1 (no_no _)).trans (HCEL.out i hi).2⟩
                  have HW2 := hide (fun n c (e : n = tl.length - (v1 + 257)) => rwide_any g2 30 (.slice (some ⟨g2, v1 + 257, none⟩) n c) (tl.drop (v1 + 257)) w9 (ins_drop hcel9 e) (by omega) (by have := HLN2.out; omega))
                  rw [HBB.out] at HW2
                  have HCA := hide hcela
                  have HF9 := hide hf9
                  rw [hA]
                  clear hcel9 hcela hrow9 hf9 HW1
                  go_wp2_with fail
                  refine (HW2.out _ _ (by omega)).mono ?_
                  rintro e w10 ⟨fv, rfl, hrow10, hf10⟩
                  obtain ⟨gb, cb, rfl, hcb, hgb, hcelb⟩ := irow_cells hrow10 (by omega)
                  have hgbl := (hcelb 0 (by omega)).1
                  have hsz10 := hf10.size
                  have hcela10 : ∀ i, i < A.length → w10.cell? ⟨ga, i, none⟩ = some (.int .i64 (A.getD i 0 : Nat)) := fun i hi => (hf10.cell (p := ⟨ga, i, none⟩) (HCA.out i hi).1 (no_no _)).trans (HCA.out i hi).2
                  have HCA10 := hide hcela10
                  have HCB := hide hcelb
                  have HF10 := hide (HF9.out.trans hf10)
                  obtain ⟨i0, hi, hz0, hz1, hz2⟩ := info_parts rinfo3
                  obtain ⟨i1, hi1, hz01, hz11, hz21⟩ := info_parts rinfoI
                  rw [hBl]
                  clear hcelb hrow10 hf10 HW2 hcela10
                  go_wp2_with (at_builtin; refine wpList_append_lies _ rfl (.tmp 115) (.tmp 116) 30 rfl w10.heap.size 3 i0 (.int .i64 0) 1 8 Tryd.underlying30 hi hz0 hz1 hz2 rfl (by decide) (.slice none 0 0) 0 [] rfl ?hown ⟨ga, 0, none⟩ 286 ca (A.map iv) rfl ?hlen ?hnews ?h1 (by decide) ?h63 ?hb ?hbase _ rfl ?hK)
                  case hown => exact irow_nil _ _
                  case hlen => first | (rw [List.length_map]; omega) | (simp; omega) | omega
                  case hnews => exact news_of (fun i hi => HCA10.out i hi)
                  case h1 => first | (intro u hu; simp at hu; obtain ⟨a, _, rfl⟩ := hu; rfl) | (intro a _; rfl) | simp [iv, Value.oneCell']
                  case h63 => first | (unfold maxLen; omega) | decide
                  case hb => first | omega | decide
                  case hbase => first | omega | (simp; omega)
                  case hK =>
                    intro g3 cap3 w11 hown3 hgrow3 hat3 hlt3
                    have hf11 : Fr No w10 w11 := (Fr.refl _ _).grown hgrow3 (fun k hk _ => by cases hk)
                    have hsz11 := hf11.size
                    have hcelb11 : ∀ i, i < Bq.length → w11.cell? ⟨gb, i, none⟩ = some (.int .i64 (Bq.getD i 0 : Nat)) := fun i hi => (hf11.cell (p := ⟨gb, i, none⟩) (HCB.out i hi).1 (no_no _)).trans (HCB.out i hi).2
                    have HCB11 := hide hcelb11
                    have HO3 := hide hown3
                    have HF11 := hide hf11
                    clear hown3 hgrow3 hat3 hf11 hcelb11
                    go_wp2_with (at_builtin; refine wpList_append_lies _ rfl (.tmp 118) (.tmp 119) 30 rfl w10.heap.size 3 i0 (.int .i64 0) 1 8 Tryd.underlying30 hi hz0 hz1 hz2 rfl (by decide) (.slice (some ⟨g3, 0, none⟩) 286 cap3) 286 (A.map iv) rfl ?hown ⟨gb, 0, none⟩ 30 cb (Bq.map iv) rfl ?hlen ?hnews ?h1 (by decide) ?h63 ?hb ?hbase _ rfl ?hK)
                    case hown => have := HO3.out; simpa using this
                    case hlen => first | (rw [List.length_map]; omega) | (simp; omega) | omega
                    case hnews => exact news_of (fun i hi => HCB11.out i hi)
                    case h1 => first | (intro u hu; simp at hu; obtain ⟨a, _, rfl⟩ := hu; rfl) | (intro a _; rfl) | simp [iv, Value.oneCell']
                    case h63 => first | (unfold maxLen; omega) | decide
                    case hb => first | omega | decide
                    case hbase => first | omega | (simp; omega)
                    case hK =>
                      intro g4 cap4 w12 hown4 hgrow4 hat4 hlt4
                      have hf12 : Fr No w10 w12 := HF11.out.grown hgrow4 (fun k hk hk3 => by have := ownsRow_lt HO3.out hk; omega)
                      have hrow12 : w12.ownsRow w10.heap.size 3 1 (.slice (some ⟨g4, 0, none⟩) 316 cap4) (A ++ Bq).length ((A ++ Bq).map iv) := by
                        have h1 : (A ++ Bq).length = 316 := by rw [List.length_append]; omega
                        rw [h1, List.map_append]; exact hown4
                      obtain ⟨g5, c5, e5, hc5, hg5, hcel5⟩ := irow_cells hrow12 (by rw [List.length_append]; omega)
                      have hg45 : g5 = g4 := by injection e5 with e6; injection e6 with e7; injection e7 with e8; exact e8.symm
                      subst hg45
                      have HC316 : Hid (316 ≤ cap4) := by
                        have h1 : (A ++ Bq).length = 316 := by rw [List.length_append]; omega
                        injection e5 with _ _ e6
                        rw [h1, ← e6] at hc5
                        exact hc5
                      clear hc5
                      have hf812 : Fr No w8 w12 := HF10.out.trans hf12
                      have hL12 := HL8.out.ofL (L := [ga, gb, g5]) (x' := { x with pos := q, st := 0 }) hf812.of_no (HL8.out.no hf812).da ⟨rfl, rfl, rfl, rfl⟩ (fun k hk => by have := hf12.size; simp at hk; rcases hk with rfl | rfl | rfl <;> omega) rfl rfl rfl rfl HL8.out.sh HL8.out.er HL8.out.pos
                      obtain ⟨ks, hrw, hkk⟩ := hL12.rows
                      obtain ⟨ak, ck, hkv⟩ := hL12.form 1
                      have hkl := hL12.bsz
                      have c7 := hL12.da.c7
                      have hlt12 := hL12.da.lt
                      obtain ⟨KV, hKV⟩ : ∃ KV : DS, KV = { s' with pos := q } := ⟨_, rfl⟩
                      rw [← hKV] at hL12 hrw hkv c7
                      have hkv : KV.kv = .slice ak x.keys.length ck := hkv
                      rw [hkv] at c7
                      have HL12 := hide hL12
                      have HRW := hide hrw
                      have HKS := hide hkk
                      have HKVV := hide hkv
                      have HC5 := hide hcel5
                      have HF812 := hide hf812
                      have HF12 := hide hf12
                      clear hL12 hrw hkk hkv hown4 hgrow4 hat4 hf12 hrow12 hcel5 hf812 e5 hKV
                      go_wp2_with (at_builtin; refine wpList_append_lies _ rfl (.tmp 125) (.tmp 127) 52 rfl B 30 i1 (.slice none 0 0) 1 24 Tryd.underlying52 hi1 hz01 hz11 hz21 rfl (by decide) (.slice ak x.keys.length ck) x.keys.length ks rfl ?hown ⟨w12.heap.size, 0, none⟩ 1 1 [.slice (some ⟨g5, 0, none⟩) 316 cap4] rfl rfl ?hnews ?h1 (by decide) ?h63 ?hb ?hbase _ rfl ?hK)
                      case hown => exact ownsRow_fr (S := No) (HKVV.out ▸ HRW.out.row 1) ((Fr.refl _ _).alloc _) (fun _ _ => no_no _)
                      case h1 => first | rfl | (intro u hu; simp at hu; subst hu; rfl)
                      case h63 => unfold maxLen; omega
                      case hb => omega
                      case hbase => first | omega | (simp; omega)
                      case hK =>
                        intro g6 cap6 w13 hown6 hgrow6 hat6 hlt6
                        have hgrow' : World.grownBy _ w13 (KV.row 1).ownBlock := (show KV.row 1 = _ from HKVV.out) ▸ hgrow6
                        have hfo : Fr (fun k => some k = (KV.row 1).ownBlock) w12 w13 := ((Fr.refl _ _).alloc _).trans ⟨hgrow'.os, hgrow'.tape, hgrow'.output, hgrow'.size, fun k hk hs => hgrow'.block k hk hs⟩
                        have hr13 : Da w13 rb KV := HL12.out.da.fr hfo (fun e => (HRW.out.far 1 rb e.symm).1 rfl)
                        have k7 := hr13.c7
                        have e7 := hr13.fz 7
                        have HR13 := hide hr13
                        have HO6 := hide hown6
                        have HG := hide hgrow'
                        have HA6 := hide hat6
                        have HFO := hide hfo
                        clear hown6 hgrow6 hgrow' hat6 hfo hr13
                        go_wp2_with fail
                        have hksl : ks.length = x.keys.length := by have := (HRW.out.row 1).1; simpa [cnt, cel, esz] using this
                        have hg := HL12.out.grown (x' := { x with pos := q, keys := x.keys ++ [A ++ Bq] }) (s' := { KV with kv := .slice (some ⟨g6, 0, none⟩) (x.keys.length + 1) cap6 }) 1 g6 cap6 (x.keys.length + 1) _ w13 ((Fr.refl _ _).alloc _) HG.out
                          (by rcases HA6.out with h | h
                              · exact Or.inl (by rw [show KV.row 1 = KV.kv from rfl, HKVV.out]; exact h)
                              · exact Or.inr (by rw [h]; simp)) ks (ks ++ [.slice (some ⟨g5, 0, none⟩) 316 cap4]) HRW.out
                          (fun i hi => by
                            by_cases hil : i < x.keys.length
                            · obtain ⟨b, hb, hin⟩ := HKS.out i hil
                              refine ⟨b, hb, ?_⟩
                              rw [show (ks ++ [Value.slice (some ⟨g5, 0, none⟩) 316 cap4]).getD i undef = ks.getD i undef by rw [List.getD, List.getD, List.getElem?_append_left (by omega)], show (x.keys ++ [A ++ Bq]).getD i [] = x.keys.getD i [] by rw [List.getD, List.getD, List.getElem?_append_left hil]]
                              exact hin.fr HFO.out (fun e => (HRW.out.far 1 b e.symm).2 hb)
                            · have hi' : i < (x.keys ++ [A ++ Bq]).length := hi
                              rw [List.length_append] at hi'
                              have hie : i = x.keys.length := by simp at hi'; omega
                              subst hie
                              refine ⟨g5, by simp, ?_⟩
                              rw [show (ks ++ [Value.slice (some ⟨g5, 0, none⟩) 316 cap4]).getD x.keys.length undef = .slice (some ⟨g5, 0, none⟩) 316 cap4 by rw [List.getD, List.getElem?_append_right (by omega), hksl]; simp, show (x.keys ++ [A ++ Bq]).getD x.keys.length [] = A ++ Bq by rw [List.getD, List.getElem?_append_right (by omega)]; simp]
                              refine ⟨⟨_, 0, cap4, by rw [List.length_append, hA, hBl], fun j hj => ⟨rfl, by have := (HC5.out j hj).1; have := HFO.out.size; omega, ?_⟩⟩, _, _, _, rfl, HC316.out⟩
                              rw [Nat.zero_add]
                              exact (HFO.out.cell (p := ⟨g5, j, none⟩) (HC5.out j hj).1 (fun e => (HRW.out.far 1 g5 e.symm).2 (by simp))).trans (HC5.out j hj).2) rfl
                          (by have := HO6.out
                              show w13.ownsRow B 30 1 (.slice (some ⟨g6, 0, none⟩) (x.keys.length + 1) cap6) (x.keys ++ [A ++ Bq]).length (ks ++ [.slice (some ⟨g5, 0, none⟩) 316 cap4])
                              rw [List.length_append]; exact this)
                          (fun i hi => by match i, hi with | 0, _ => rfl | 2, _ => rfl | 3, _ => rfl | 1, h => exact absurd rfl h)
                          (fun i hi => by match i, hi with | 0, _ => rfl | 2, _ => rfl | 3, _ => rfl | 1, h => exact absurd rfl h)
                          (fun i hi => by match i, hi with | 0, _ => rfl | 2, _ => rfl | 3, _ => rfl | 1, h => exact absurd rfl h)
                          (HR13.out.s7 _) rfl rfl rfl (by show KV.sh = (x.st == 2); rw [H0.out]; exact HL12.out.sh) (by show KV.er = if x.st = 2 then 0 else x.st; rw [H0.out]; exact HL12.out.er)
                          (fun _ => by have hp12 := HL12.out.pos rfl; exact ⟨hp12.1, hq8, hp12.2.2.1, hp12.2.2.2.1, by show (x.keys ++ [A ++ Bq]).length ≤ q; rw [List.length_append]; have h9 := hL12keys; simp; omega⟩) HL12.out.len
                        have hgA : ga ∈ [ga, gb, g5] ++ KK := by simp
                        have hgB : gb ∈ [ga, gb, g5] ++ KK := by simp
                        have hInA : Ins (w13.setCell ⟨rb, 7, none⟩ (.slice (some ⟨g6, 0, none⟩) (x.keys.length + 1) cap6)) ga (.slice (some ⟨ga, 0, none⟩) 286 ca) A := by
                          refine Ins.fr (w := w12) ?_ hg.2 (fun e => e.2 hgA)
                          exact ⟨_, 0, ca, by rw [hA], fun i hi => ⟨rfl, by have := HF12.out.size; omega, by rw [Nat.zero_add]; exact (HF12.out.cell (p := ⟨ga, i, none⟩) (by show ga < w10.heap.size; omega) (no_no _)).trans (HCA10.out i hi)⟩⟩
                        have hInB : Ins (w13.setCell ⟨rb, 7, none⟩ (.slice (some ⟨g6, 0, none⟩) (x.keys.length + 1) cap6)) gb (.slice (some ⟨gb, 0, none⟩) 30 cb) Bq := by
                          refine Ins.fr (w := w12) ?_ hg.2 (fun e => e.2 hgB)
                          exact ⟨_, 0, cb, by rw [hBl], fun i hi => ⟨rfl, by have := HF12.out.size; omega, by rw [Nat.zero_add]; exact (HF12.out.cell (p := ⟨gb, i, none⟩) (by show gb < w10.heap.size; omega) (no_no _)).trans (HCB.out i hi).2⟩⟩
                        obtain ⟨hg1, hg2⟩ := hg
                        rw [HKK.out, ← List.append_assoc] at hg1
                        rw [HKK.out, ← List.append_assoc] at hg2
                        go_ret2
                        refine ⟨((HH.out.one HF8.out).trans HF812.out.of_no).trans hg2.less, ?_⟩
                        rw [HU6.out]
                        exact ⟨[ga, gb, g5] ++ [w3.heap.size, g], _, _, _, ga, gb, rfl, hg1, by simp, by simp, hInA, hInB, HLA.out, HLB.out, hA, hBl⟩
        · have HTG2 : Hid (TG = .error 2) := htg.out.2 rfl
          by_cases hkn : k < v3 + 4
          · obtain ⟨k, hke⟩ : ∃ k, k = 2 := ⟨_, rfl⟩
            have hk0 : k ≠ 0 := by omega
            have HD : Hid (R = .error k) := by unfold Hid; rw [HU3.out, HTG2.out, hke]; rfl
            have HL := hide hLr
            rw [← hke] at HL
            have HKK := hide hke
            have HFX := hide (HH.out.one (HF3.out.trans hfr))
            clear hlens htg ht hLr hke HU3
            have HOKB := hide (rok_bad HL.out hk0)
            have HOKQ : Hid (∀ q, Calls Tryd.prog 42 #[.pointer (some ⟨rb, 0, none⟩)] (wr.drewN q) fun e w' => e = .returned (.bool false) ∧ w' = wr.drewN q) := fun q => rok_bad (HL.out.no ((Fr.refl _ _).drewN _)) hk0
            have hk2 : k = 2 := HKK.out
            have k2 : wr.cell? ⟨rb, 2, none⟩ = some (.bool true) := by rw [HL.out.da.c2, HL.out.sh]; show some (Value.bool (k == 2)) = _; rw [hk2]; rfl
            have k1' := HL.out.da.c1
            have e1' := HL.out.da.fz 1
            go_wp2_with (go_at_call 42; refine HOKB.out.mono ?_; rintro e w' ⟨rfl, hw⟩; obtain rfl := hw.symm)
            go_quiet (first | (go_at_call 42; exact Calls.quiet_of_same (HOKQ.out _)))
            go_wp2_with (go_at_call 42; refine (HOKQ.out _).mono ?_; rintro e w' ⟨rfl, hw⟩; subst hw)
            go_ret2
            have hf3 : Fr (One rb) wr ((wr.drewN nq).setCell ⟨rb, 1, none⟩ (.int .i64 (x.pos : Nat))) := ((Fr.refl _ _).drewN _).setCell (fun _ => one_self rb) _
            have hL3 := HL.out.of (x' := { x with st := k }) hf3 ((Da.drewN HL.out.da _).s1 (x.pos : Nat) x.pos rfl) rfl rfl rfl rfl rfl rfl rfl rfl HL.out.sh HL.out.er (fun e => absurd e hk0)
            refine ⟨HFX.out.trans (HL.out.one hf3), ?_⟩
            rw [HD.out]
            exact ⟨hk0, rfl, [], _, hL3⟩
          · obtain ⟨k, hke⟩ : ∃ k, k = 2 := ⟨_, rfl⟩
            have hk0 : k ≠ 0 := by omega
            have HD : Hid (R = .error k) := by unfold Hid; rw [HU3.out, HTG2.out, hke]; rfl
            have HL := hide hLr
            rw [← hke] at HL
            have HKK := hide hke
            have HFX := hide (HH.out.one (HF3.out.trans hfr))
            clear hlens htg ht hLr hke HU3
            have HOKB := hide (rok_bad HL.out hk0)
            have HOKQ : Hid (∀ q, Calls Tryd.prog 42 #[.pointer (some ⟨rb, 0, none⟩)] (wr.drewN q) fun e w' => e = .returned (.bool false) ∧ w' = wr.drewN q) := fun q => rok_bad (HL.out.no ((Fr.refl _ _).drewN _)) hk0
            have hk2 : k = 2 := HKK.out
            have k2 : wr.cell? ⟨rb, 2, none⟩ = some (.bool true) := by rw [HL.out.da.c2, HL.out.sh]; show some (Value.bool (k == 2)) = _; rw [hk2]; rfl
            have k1' := HL.out.da.c1
            have e1' := HL.out.da.fz 1
            go_wp2_with (go_at_call 42; refine HOKB.out.mono ?_; rintro e w' ⟨rfl, hw⟩; obtain rfl := hw.symm)
            go_quiet (first | (go_at_call 42; exact Calls.quiet_of_same (HOKQ.out _)))
            go_wp2_with (go_at_call 42; refine (HOKQ.out _).mono ?_; rintro e w' ⟨rfl, hw⟩; subst hw)
            go_ret2
            have hf3 : Fr (One rb) wr ((wr.drewN nq).setCell ⟨rb, 1, none⟩ (.int .i64 (x.pos : Nat))) := ((Fr.refl _ _).drewN _).setCell (fun _ => one_self rb) _
            have hL3 := HL.out.of (x' := { x with st := k }) hf3 ((Da.drewN HL.out.da _).s1 (x.pos : Nat) x.pos rfl) rfl rfl rfl rfl rfl rfl rfl rfl HL.out.sh HL.out.er (fun e => absurd e hk0)
            refine ⟨HFX.out.trans (HL.out.one hf3), ?_⟩
            rw [HD.out]
            exact ⟨hk0, rfl, [], _, hL3⟩
end Go.Proofs.YtjjjlilflbddoaaDoor
