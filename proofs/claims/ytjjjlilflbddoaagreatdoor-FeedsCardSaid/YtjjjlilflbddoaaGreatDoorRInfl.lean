import Derived.Test.YtjjjlilflbddoaaGreatDoorRRAgree
import Derived.Laws.IdiomStrings
namespace Go.Proofs.YtjjjlilflbddoaaGreatDoor
open Go.RowKit

/-- What Inflate gives back. -/
def rgot (r : List UInt8 × Nat × Nat) : Value := .tuple #[.string ⟨r.1.toArray⟩, .int .i64 r.2.1, .int .i64 r.2.2]

theorem rused_any (rb : Nat) (s : DS) (w : World) (hr : Da w rb s) (hp : s.pos ≤ 100000) :
    Calls Tryz.prog 22 #[.pointer (some ⟨rb, 0, none⟩)] w fun e w' => e = .returned (.int .i64 ((s.pos + 7) / 8 : Nat)) ∧ w' = w := by
  have h1 := hr.c1
  go_enter Tryz.func22, Tryz.ntmps22
  go_wp2
  go_ret
  exact ⟨ret_int (by omega), rfl⟩

/-- What was put out, as a string. -/
theorem rconv {B rb : Nat} {K : List Nat} {d : List UInt8} {lim : Nat} {x : Rf.D} {w : World} {s : DS} (h : RL B rb K d lim x w s) (w' : World) (f : Fr (One rb) w w') : (convert 61 9 s.ov).run Tryz.prog w' = .ok (.string ⟨x.out.toArray⟩) w' := by
  obtain ⟨ks, hrw, _⟩ := h.rows
  have hrow : w.ownsRow B 5 1 s.ov x.out.length (x.out.map bv) := hrw.row 0
  rcases hrow.2 with ⟨h1, h0⟩ | ⟨g, cap, cur, hv, _⟩
  · have e : x.out = [] := List.length_eq_zero_iff.1 h0
    rw [e, h1, run_convert_bytes_string w' 61 9 5 none 0 0 Tryz.underlying61 Tryz.underlying5 Tryz.underlying9]
    rfl
  · rw [hv]
    refine run_convert_bytes_back w' 61 9 5 ⟨g, 0, none⟩ cap x.out Tryz.underlying61 Tryz.underlying5 Tryz.underlying9 (fun j hj => ?_)
    obtain ⟨g', cap', hv', hc⟩ := h.byte hj
    rw [hv] at hv'
    injection hv' with e1
    injection e1 with e2
    injection e2 with e3
    subst e3
    have e4 : (⟨g, 0, none⟩ : Addr).add j = ⟨g, j, none⟩ := by simp only [Addr.add]; split <;> simp_all
    have hgl := ownsRow_lt (hrw.row 0) (b := g) (by rw [show s.row 0 = s.ov from rfl, hv]; rfl)
    have hgf := hrw.far 0 g (by rw [show s.row 0 = s.ov from rfl, hv]; rfl)
    rw [e4, f.cell (p := ⟨g, j, none⟩) hgl.2 (one_ne hgf.1), hc]
    simp [List.getD, hj]

set_option maxRecDepth 100000 in
set_option maxHeartbeats 4000000 in
theorem rinflate_any (t : ByteArray) (lim : Int) (w : World) (hO : OrdAt w) (hG : 11 < w.heap.size) :
    Calls Tryz.prog 7 #[.string t, .int .i64 lim] w fun e w' => e = .returned (rgot (Gz.inflate t.data.toList lim)) ∧ Fr No w w' := by
  have htl : t.data.toList.length = t.size := by simp
  by_cases h1 : 4000 < t.size
  · have hr : Gz.inflate t.data.toList lim = ([], 0, 1) := by unfold Gz.inflate; rw [if_pos (by omega)]
    rw [hr]
    go_enter Tryz.func7, Tryz.ntmps7
    go_wp2
    go_ret3
    exact ⟨rfl, Fr.refl _ _⟩
  by_cases h2 : lim < 0 ∨ 6000 < lim
  · have hr : Gz.inflate t.data.toList lim = ([], 0, 11) := by unfold Gz.inflate; rw [if_neg (by omega), if_pos h2]
    rw [hr]
    go_enter Tryz.func7, Tryz.ntmps7
    rcases h2 with h2 | h2
    · go_wp2
      go_ret3
      exact ⟨rfl, Fr.refl _ _⟩
    · have : ¬ lim < 0 := by omega
      go_wp2
      go_ret3
      exact ⟨rfl, Fr.refl _ _⟩
  · obtain ⟨l, rfl⟩ : ∃ l : Nat, lim = l := ⟨lim.toNat, by omega⟩
    have hr : ∀ r, Gz.read t.data.toList l = r → Gz.inflate t.data.toList (l : Int) = match r with | .ok (o, p) => (o, (p + 7) / 8, 0) | .error k => ([], 0, k) := by
      rintro r rfl
      unfold Gz.inflate; rw [if_neg (by omega), if_neg h2, Int.toNat_natCast]
      cases Gz.read t.data.toList l <;> rfl
    have hl6 : ¬ (6000 : Int) < l := by omega
    have hl0 : ¬ (l : Int) < 0 := by omega
    have HRD := hide (rread_any t l w hO hG (by omega) (by omega) (fun p k h => lens_bad h))
    have hag := read_agree t.data.toList l
    have HR := hide hr
    generalize Rf.read t.data.toList l = X at *
    obtain ⟨Y, dn⟩ := X
    have HAG := hide hag
    clear hr hag h2
    go_enter Tryz.func7, Tryz.ntmps7
    go_wp2_with fail
    refine HRD.out.mono ?_
    rintro e w1 ⟨rfl, hf1, K, s1, w0, hL, hda, hf01⟩
    have HF1 := hide hf1
    cases hg : Gz.read t.data.toList l with
    | ok okk =>
      obtain ⟨o, q⟩ := okk
      have hag := HAG.out
      rw [hg] at hag
      obtain ⟨a1, a2, a3, a4⟩ := hag
      have a1 : dn = true := a1
      have a2 : Y.st = 0 := a2
      have a3 : Y.out = o := a3
      have a4 : Y.pos = q := a4
      subst a1
      subst a3
      have hp := hL.pos a2
      have hdl := hL.dlen
      have c3 : w1.cell? ⟨w.heap.size, 3, none⟩ = some (.int .i64 0) := by rw [hda.c3]; show some (Value.int .i64 (s1.er : Nat)) = _; rw [hL.er0 a2]; rfl
      have c4 : w1.cell? ⟨w.heap.size, 4, none⟩ = some (.bool true) := hda.c4
      have c6 : w1.cell? ⟨w.heap.size, 6, none⟩ = some s1.ov := hda.c6
      have HUS : Hid (Calls Tryz.prog 22 #[.pointer (some ⟨w.heap.size, 0, none⟩)] (World.drew w1) fun e w' => e = .returned (.int .i64 ((s1.pos + 7) / 8 : Nat)) ∧ w' = World.drew w1) := rused_any w.heap.size { s1 with dn := true } _ hda (by show s1.pos ≤ _; omega)
      have hcv : (convert 61 9 s1.ov).run Tryz.prog (World.drew w1) = .ok (.string ⟨Y.out.toArray⟩) (World.drew w1) := rconv hL _ hf01.drew
      obtain ⟨ao, cap, hov⟩ := hL.form 0
      have hov : s1.ov = .slice ao Y.out.length cap := hov
      rw [hov] at c6 hcv
      have HPQ : Hid (s1.pos = q) := by unfold Hid; omega
      have HRR : Hid (Gz.inflate t.data.toList (l : Int) = (Y.out, (q + 7) / 8, 0)) := HR.out _ hg
      clear hL hda hf01 hg hp a2 a4 hov HAG HR
      go_upto_region 10 with fail
      refine wp_region_any (by kernel_rfl) ?_
      change wpAny _ _ _ _ _ _ _ (World.drew _)
      refine wpAny_take (i := 0) (v := ?_) rfl (by kernel_rfl) (by kernel_rfl) (by kernel_rfl) (fun _ _ _ h => h) (Or.inl ⟨by rfl, by intro w; go_simp; with_reducible rfl⟩) ?_
      refine wpAny_take (i := 1) (v := ?_) rfl (by kernel_rfl) (by kernel_rfl) (by kernel_rfl) (fun _ _ _ h => h) (Or.inl ⟨by rfl, by intro w; go_simp; with_reducible rfl⟩) ?_
      refine wpAny_take (i := 2) (v := ?_) rfl (by kernel_rfl) (by kernel_rfl) (by kernel_rfl) (fun _ _ _ h => h) (Or.inl ⟨by rfl, by intro w; go_simp; with_reducible rfl⟩) ?_
      refine wpAny_take (i := 5) (v := ?_) rfl (by kernel_rfl) (by kernel_rfl) (by kernel_rfl) (fun _ _ _ h => h) (Or.inl ⟨by rfl, by intro w; go_simp; with_reducible rfl⟩) ?_
      refine wpAny_ready (rs := [3, 6]) (by kernel_rfl) (by simp) ?_
      refine AllReady.cons rfl (fun Kc hK => ?_) ?_
      · go_simp
        refine hK _ _ ?_
        clear hK Kc
        refine wpAny_ready (rs := [4, 6]) (by kernel_rfl) (by simp) ?_
        refine AllReady.cons rfl (fun Kc hK => ?_) ?_
        · go_simp
          refine hK _ _ ?_
          clear hK Kc
          refine wpAny_ready (rs := [6]) (by kernel_rfl) (by simp) ?_
          refine AllReady.cons rfl (fun Kc hK => ?_) AllReady.nil
          go_simp
          refine HUS.out.mono ?_
          rintro e w' ⟨rfl, rfl⟩
          refine hK _ _ ?_
          clear hK Kc
          refine wpAny_take (i := 7) (v := ?_) rfl (by kernel_rfl) (by kernel_rfl) (by kernel_rfl) (fun _ _ _ h => h) (Or.inl ⟨by rfl, by intro w; go_simp; with_reducible rfl⟩) ?_
          refine wpAny_take (i := 8) (v := ?_) rfl (by kernel_rfl) (by kernel_rfl) (by kernel_rfl) (fun _ _ _ h => h) (Or.inl ⟨by rfl, by intro w; go_simp; with_reducible rfl⟩) ?_
          refine wpAny_take (i := 9) (v := ?_) rfl (by kernel_rfl) (by kernel_rfl) (by kernel_rfl) (fun _ _ _ h => h) (Or.inl ⟨by rfl, by intro w; go_simp; with_reducible rfl⟩) ?_
          refine wpAny_done (by kernel_rfl) ?_ _
          go_wp2_with fail
          go_ret3
          refine ⟨?_, HF1.out.drew⟩
          rw [HRR.out, ← HPQ.out]
          rfl
        refine AllReady.cons rfl (fun Kc hK => ?_) AllReady.nil
        go_simp
        refine HUS.out.mono ?_
        rintro e w' ⟨rfl, rfl⟩
        refine hK _ _ ?_
        clear hK Kc
        refine wpAny_ready (rs := [4]) (by kernel_rfl) (by simp) ?_
        refine AllReady.cons rfl (fun Kc hK => ?_) AllReady.nil
        go_simp
        refine hK _ _ ?_
        clear hK Kc
        refine wpAny_take (i := 7) (v := ?_) rfl (by kernel_rfl) (by kernel_rfl) (by kernel_rfl) (fun _ _ _ h => h) (Or.inl ⟨by rfl, by intro w; go_simp; with_reducible rfl⟩) ?_
        refine wpAny_take (i := 8) (v := ?_) rfl (by kernel_rfl) (by kernel_rfl) (by kernel_rfl) (fun _ _ _ h => h) (Or.inl ⟨by rfl, by intro w; go_simp; with_reducible rfl⟩) ?_
        refine wpAny_take (i := 9) (v := ?_) rfl (by kernel_rfl) (by kernel_rfl) (by kernel_rfl) (fun _ _ _ h => h) (Or.inl ⟨by rfl, by intro w; go_simp; with_reducible rfl⟩) ?_
        refine wpAny_done (by kernel_rfl) ?_ _
        go_wp2_with fail
        go_ret3
        refine ⟨?_, HF1.out.drew⟩
        rw [HRR.out, ← HPQ.out]
        rfl
      refine AllReady.cons rfl (fun Kc hK => ?_) AllReady.nil
      go_simp
      refine HUS.out.mono ?_
      rintro e w' ⟨rfl, rfl⟩
      refine hK _ _ ?_
      clear hK Kc
      refine wpAny_ready (rs := [3]) (by kernel_rfl) (by simp) ?_
      refine AllReady.cons rfl (fun Kc hK => ?_) AllReady.nil
      go_simp
      refine hK _ _ ?_
      clear hK Kc
      refine wpAny_ready (rs := [4]) (by kernel_rfl) (by simp) ?_
      refine AllReady.cons rfl (fun Kc hK => ?_) AllReady.nil
      go_simp
      refine hK _ _ ?_
      clear hK Kc
      refine wpAny_take (i := 7) (v := ?_) rfl (by kernel_rfl) (by kernel_rfl) (by kernel_rfl) (fun _ _ _ h => h) (Or.inl ⟨by rfl, by intro w; go_simp; with_reducible rfl⟩) ?_
      refine wpAny_take (i := 8) (v := ?_) rfl (by kernel_rfl) (by kernel_rfl) (by kernel_rfl) (fun _ _ _ h => h) (Or.inl ⟨by rfl, by intro w; go_simp; with_reducible rfl⟩) ?_
      refine wpAny_take (i := 9) (v := ?_) rfl (by kernel_rfl) (by kernel_rfl) (by kernel_rfl) (fun _ _ _ h => h) (Or.inl ⟨by rfl, by intro w; go_simp; with_reducible rfl⟩) ?_
      refine wpAny_done (by kernel_rfl) ?_ _
      go_wp2_with fail
      go_ret3
      refine ⟨?_, HF1.out.drew⟩
      rw [HRR.out, ← HPQ.out]
      rfl
    | error k =>
      have hag := HAG.out
      rw [hg] at hag
      obtain ⟨a1, a2, a3⟩ := hag
      have a1 : dn = false := a1
      have a2 : Y.st = k := a2
      subst a1
      have c4 : w1.cell? ⟨w.heap.size, 4, none⟩ = some (.bool false) := hda.c4
      have HRR : Hid (Gz.inflate t.data.toList (l : Int) = ([], 0, k)) := HR.out _ hg
      by_cases hk2 : k = 2
      · have c3 : w1.cell? ⟨w.heap.size, 3, none⟩ = some (.int .i64 0) := by rw [hda.c3]; show some (Value.int .i64 (s1.er : Nat)) = _; rw [hL.er, if_pos (by omega)]; rfl
        subst hk2
        clear hL hda hf01 hg a2 HAG HR
        go_wp2
        go_ret3
        refine ⟨?_, HF1.out⟩
        rw [HRR.out]
        rfl
      · have c3 : w1.cell? ⟨w.heap.size, 3, none⟩ = some (.int .i64 k) := by rw [hda.c3]; show some (Value.int .i64 (s1.er : Nat)) = _; rw [hL.er, if_neg (by omega), a2]
        have hkb : ((k : Int) != 0) = true := by simp; omega
        clear hL hda hf01 hg a2 HAG HR
        go_wp2
        go_quiet (fail)
        go_wp2
        go_ret3
        refine ⟨?_, HF1.out.drewN _⟩
        rw [HRR.out]
        rfl
end Go.Proofs.YtjjjlilflbddoaaGreatDoor
