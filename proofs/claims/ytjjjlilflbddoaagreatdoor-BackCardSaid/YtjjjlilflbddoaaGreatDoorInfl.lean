import Derived.Test.YtjjjlilflbddoaaGreatDoorRead
import Derived.Test.YtjjjlilflbddoaaGreatDoorQIs
namespace Go.Proofs.YtjjjlilflbddoaaGreatDoor
open Go.RowKit Go.Maps Go.WideMaps

theorem may_yes (l : Nat) (w : World) (h : l ≤ 6000) : Calls Tryz.prog 34 #[.int .i64 l] w fun e w' => e = .returned (.bool true) ∧ w' = w := by
  have h1 : decide ((0 : Int) ≤ (l : Int)) = true := by simp
  have h2 : decide ((l : Int) ≤ 6000) = true := by simp; omega
  go_enter Tryz.func34, Tryz.ntmps34
  go_wp2
  go_ret
  exact ⟨rfl, rfl⟩
theorem may_no (l : Int) (w : World) (h : l < 0 ∨ 6000 < l) : Calls Tryz.prog 34 #[.int .i64 l] w fun e w' => e = .returned (.bool false) ∧ w' = w := by
  by_cases h0 : l < 0
  · have h1 : decide ((0 : Int) ≤ l) = false := by simp; omega
    go_enter Tryz.func34, Tryz.ntmps34
    go_wp2
    go_ret
    exact ⟨rfl, rfl⟩
  · have h1 : decide ((0 : Int) ≤ l) = true := by simp; omega
    have h2 : decide (l ≤ 6000) = false := by simp; omega
    go_enter Tryz.func34, Tryz.ntmps34
    go_wp2
    go_ret
    exact ⟨rfl, rfl⟩
theorem mayRead_long (t : ByteArray) (l : Int) (w : World) (h : 4000 < t.size) : Calls Tryz.prog 15 #[.string t, .int .i64 l] w fun e w' => e = .returned (.int .i64 1) ∧ w' = w := by
  go_enter Tryz.func15, Tryz.ntmps15
  go_wp2
  go_ret
  exact ⟨rfl, rfl⟩
theorem mayRead_no (t : ByteArray) (l : Int) (w : World) (h : ¬ 4000 < t.size) (h2 : l < 0 ∨ 6000 < l) : Calls Tryz.prog 15 #[.string t, .int .i64 l] w fun e w' => e = .returned (.int .i64 11) ∧ w' = w := by
  have HM := hide (may_no l w h2)
  clear h2
  go_enter Tryz.func15, Tryz.ntmps15
  go_wp2_with (go_at_call 34; refine HM.out.mono ?_; rintro e w' ⟨rfl, hw'⟩; obtain rfl := hw'.symm)
  go_ret
  exact ⟨rfl, rfl⟩
theorem mayRead_yes (t : ByteArray) (l : Nat) (w : World) (h : ¬ 4000 < t.size) (h2 : l ≤ 6000) : Calls Tryz.prog 15 #[.string t, .int .i64 l] w fun e w' => e = .returned (.int .i64 0) ∧ w' = w := by
  go_enter Tryz.func15, Tryz.ntmps15
  go_wp2_with (go_at_call 34; refine (may_yes l _ h2).mono ?_; rintro e w' ⟨rfl, hw'⟩; obtain rfl := hw'.symm)
  go_ret
  exact ⟨rfl, rfl⟩
/-- The reader, new. -/
def fresh (lim tsb : Nat) : RS := ⟨.slice none 0 0, 0, 0, 0, lim, .slice none 0 0, 0, false, 0, .pointer none, .pointer (some ⟨tsb, 0, none⟩)⟩
theorem newReader_any (lim tsb : Nat) (w : World) :
    Calls Tryz.prog 16 #[.int .i64 lim, .pointer (some ⟨tsb, 0, none⟩)] w fun e w' => e = .returned (.pointer (some ⟨w.heap.size, 0, none⟩)) ∧ w' = w.alloc (.cells (fresh lim tsb).cells 82) := by
  go_enter Tryz.func16, Tryz.ntmps16
  go_wp2
  go_ret
  exact ⟨rfl, rfl⟩
theorem newTables_any (most : Nat) (w : World) :
    Calls Tryz.prog 17 #[.int .i64 most] w fun e w' => e = .returned (.pointer (some ⟨w.heap.size + 1, 0, none⟩)) ∧ w' = (w.alloc (.map #[] 0)).alloc (.cells #[.int .i64 most, .int .i64 0, .int .i64 0, .map (some w.heap.size)] 85) := by
  have hmm := @run_makeMap Tryz.prog
  go_enter Tryz.func17, Tryz.ntmps17
  go_wp2
  go_ret
  exact ⟨rfl, rfl⟩
theorem tabs_new (most : Nat) (w : World) (h : most ≤ 16) : TabsAt ((w.alloc (.map #[] 0)).alloc (.cells #[.int .i64 most, .int .i64 0, .int .i64 0, .map (some w.heap.size)] 85)) [] (w.heap.size + 1) w.heap.size (Gz.Tc.new most) := by
  refine ⟨?_, Gz.Tc.ok_new h, .map [], ?_, holds_nil _⟩
  · have := alloc_at (w.alloc (.map #[] 0)) (.cells #[.int .i64 most, .int .i64 0, .int .i64 0, .map (some w.heap.size)] 85)
    rw [World.size_alloc] at this
    exact this
  · exact (World.ownsMap_made w Tryz.prog _ RE).alloc _
theorem rst_fresh {sp : Nat → Addr} {B tsb mb lim : Nat} {K1 : List Nat} {c : Gz.Tc} {w : World} (hE : Env sp w) (hT : TabsAt w K1 tsb mb c) (h13 : 16 ≤ B) (hB : B ≤ w.heap.size) (hK : ∀ k ∈ K1, k < w.heap.size) (hl : lim ≤ 6000) (b1 : B ≤ tsb) (b2 : B ≤ mb) (n1 : tsb ∉ K1) (n2 : mb ∉ K1) :
    Rst sp B w.heap.size tsb mb K1 [] Gz.M.start c (w.alloc (.cells (fresh lim tsb).cells 82)) (fresh lim tsb) := by
  have f : Fr No w (w.alloc (.cells (fresh lim tsb).cells 82)) := (Fr.refl _ _).alloc _
  refine ⟨hE.fr f (fun _ _ => no_no _), ⟨alloc_at w _, Nat.le_refl _⟩, World.ownsRow_nil _ _ _ _, fun g hg => ?_, World.ownsRow_nil _ _ _ _, fun k hk => ?_, h13, Nat.le_trans hB f.size, hB, fun h => ?_, fun k hk => Nat.lt_of_lt_of_le (hK k hk) f.size, hl, Nat.zero_le _, by show 0 + 0 ≤ 4000; omega, hT.fr f (no_no _) (no_no _) (fun _ _ => no_no _), rfl, b1, b2, n1, n2, rfl, rfl, rfl, rfl, rfl, sound_start⟩
  · simp [fresh, Value.ownBlock] at hg
  · simp [fresh, Value.ownBlock] at hk
  · have := hK _ h; omega

set_option maxHeartbeats 800000 in
theorem begunR_any (rb : Nat) (s : RS) (w : World) (hr : Rd w rb s) (hp : s.pos ≤ 100000) (hps : s.ps ≤ 100000) :
    Calls Tryz.prog 20 #[.pointer (some ⟨rb, 0, none⟩)] w fun e w' => e = .returned (.int .i64 (s.ps + (s.pos + 7) / 8 : Nat)) ∧ Fr No w w' := by
  have c1 := hr.cp
  have c2 := hr.c1
  have HC := hide (begun_any s.pos (World.drew w) (by omega))
  go_enter Tryz.func20, Tryz.ntmps20
  go_wp2
  refine wp_region_held (S := fun W => W.cell? ⟨rb, 1, none⟩ = some (.int .i64 s.ps) ∧ W.cell? ⟨rb, 2, none⟩ = some (.int .i64 s.pos)) (by kernel_rfl) ?_
  change wpAnyH _ _ _ _ _ _ _ _ (World.drew _)
  have hS0 : (World.drew w).cell? ⟨rb, 1, none⟩ = some (.int .i64 s.ps) ∧ (World.drew w).cell? ⟨rb, 2, none⟩ = some (.int .i64 s.pos) := ⟨c1, c2⟩
  refine wpAnyH_take (i := 0) (v := ?_) rfl (by kernel_rfl) (by kernel_rfl) (by kernel_rfl) (fun _ _ _ h => h) (Or.inl ⟨by rfl, by intro w _; go_simp; with_reducible rfl⟩) hS0 ?_
  refine wpAnyH_take (i := 1) (v := ?_) rfl (by kernel_rfl) (by kernel_rfl) (by kernel_rfl) (fun _ _ _ h => h) (Or.inl ⟨by rfl, by intro w _; go_simp; with_reducible rfl⟩) hS0 ?_
  refine wpAnyH_take (i := 2) (v := ?_) rfl (by kernel_rfl) (by kernel_rfl) (by kernel_rfl) (fun _ _ _ h => h) (Or.inl ⟨by rfl, by intro w _; go_simp; with_reducible rfl⟩) hS0 ?_
  refine wpAnyH_take (i := 3) (v := .int .i64 s.ps) rfl (by kernel_rfl) (by kernel_rfl) (by kernel_rfl) (fun _ _ _ h => h) (Or.inl ⟨by rfl, by intro w h; have h := h.1; go_simp⟩) hS0 ?_
  refine wpAnyH_take (i := 4) (v := ?_) rfl (by kernel_rfl) (by kernel_rfl) (by kernel_rfl) (fun _ _ _ h => h) (Or.inl ⟨by rfl, by intro w _; go_simp; with_reducible rfl⟩) hS0 ?_
  refine wpAnyH_take (i := 5) (v := ?_) rfl (by kernel_rfl) (by kernel_rfl) (by kernel_rfl) (fun _ _ _ h => h) (Or.inl ⟨by rfl, by intro w _; go_simp; with_reducible rfl⟩) hS0 ?_
  refine wpAnyH_take (i := 6) (v := ?_) rfl (by kernel_rfl) (by kernel_rfl) (by kernel_rfl) (fun _ _ _ h => h) (Or.inl ⟨by rfl, by intro w _; go_simp; with_reducible rfl⟩) hS0 ?_
  refine wpAnyH_take (i := 7) (v := .int .i64 s.pos) rfl (by kernel_rfl) (by kernel_rfl) (by kernel_rfl) (fun _ _ _ h => h) (Or.inl ⟨by rfl, by intro w h; have h := h.2; go_simp⟩) hS0 ?_
  refine wpAnyH_one (i := 8) (by kernel_rfl) rfl rfl (fun K'' hK' => ?_)
  go_simp
  refine HC.out.mono ?_
  rintro e w1 ⟨rfl, rfl⟩
  refine hK' _ _ hS0 ?_
  clear hK' K''
  refine wpAnyH_take (i := 9) (v := .int .i64 ((s.ps + (s.pos + 7) / 8 : Nat) : Int)) rfl (by kernel_rfl) (by kernel_rfl) (by kernel_rfl) (fun _ _ _ h => h) (Or.inl ⟨by rfl, by intro w _; go_simp; rw [wrap_id _ (by omega) (by omega)]⟩) hS0 ?_
  refine wpAnyH_take (i := 10) (v := ?_) rfl (by kernel_rfl) (by kernel_rfl) (by kernel_rfl) (fun _ _ _ h => h) (Or.inl ⟨by rfl, by intro w _; go_simp; with_reducible rfl⟩) hS0 ?_
  refine wpAnyH_done (by kernel_rfl) ?_ _
  simp only [List.getElem_toArray, List.getElem_cons_succ, List.getElem_cons_zero]
  go_frame
  go_wp2
  go_ret
  exact ⟨rfl, (Fr.refl _ _).drew⟩

/-- What is known of it besides. -/
def Fine (d : List UInt8) (lim : Int) : Prop := d.length ≤ 4000 → 0 ≤ lim → lim ≤ 6000 → match Gz.read d lim.toNat with
  | .ok (o, _) => (o.length : Int) ≤ lim
  | .error k => 2 ≤ k ∧ k ≤ 8

/-- What Inflate gives back. -/
def got (r : List UInt8 × Nat × Nat) : Value := .tuple #[.string ⟨r.1.toArray⟩, .int .i64 r.2.1, .int .i64 r.2.2]

set_option maxRecDepth 100000 in
set_option maxHeartbeats 4000000 in
theorem inflate_any (sp : Nat → Addr) (t : ByteArray) (lim : Int) (w : World) (hE : Env sp w) (hB : Blk sp w) (hP : Pow w) :
    Calls Tryz.prog 6 #[.string t, .int .i64 lim] w fun e w' => e = .returned (got (Gz.inflate t.data.toList lim)) ∧ Fr No w w' ∧ Fine t.data.toList lim := by
  have hne := neq_err
  have hnn := neq_nil
  have htl : t.data.toList.length = t.size := by simp
  by_cases h1 : 4000 < t.size
  · have hr : Gz.inflate t.data.toList lim = ([], 0, 1) := by unfold Gz.inflate; rw [if_pos (by omega)]
    rw [hr]
    go_enter Tryz.func6, Tryz.ntmps6
    go_wp2_with (go_at_call 15; refine (mayRead_long t lim _ h1).mono ?_; rintro e w' ⟨rfl, hw'⟩; obtain rfl := hw'.symm)
    go_ret3
    exact ⟨rfl, Fr.refl _ _, fun h => by omega⟩
  by_cases h2 : lim < 0 ∨ 6000 < lim
  · have hr : Gz.inflate t.data.toList lim = ([], 0, 11) := by unfold Gz.inflate; rw [if_neg (by omega), if_pos h2]
    rw [hr]
    have HM := hide (mayRead_no t lim w h1 h2)
    have HH2 := hide h2
    clear h2
    go_enter Tryz.func6, Tryz.ntmps6
    go_wp2_with (go_at_call 15; refine HM.out.mono ?_; rintro e w' ⟨rfl, hw'⟩; obtain rfl := hw'.symm)
    go_ret3
    exact ⟨rfl, Fr.refl _ _, fun _ h h' => by have := HH2.out; omega⟩
  · obtain ⟨l, rfl⟩ : ∃ l : Nat, lim = l := ⟨lim.toNat, by omega⟩
    have hr : ∀ r, Gz.read t.data.toList l = r → Gz.inflate t.data.toList (l : Int) = match r with | .ok (o, p) => (o, (p + 7) / 8, 0) | .error k => ([], 0, k) := by
      rintro r rfl
      unfold Gz.inflate; rw [if_neg (by omega), if_neg h2, Int.toNat_natCast]
      cases Gz.read t.data.toList l <;> rfl
    have hl6 : ¬ (6000 : Int) < l := by omega
    have hl0 : ¬ (l : Int) < 0 := by omega
    have hsz := hE.size
    obtain ⟨wt, hwt⟩ : ∃ wt, wt = (w.alloc (.map #[] 0)).alloc (.cells #[.int .i64 0, .int .i64 0, .int .i64 0, .map (some w.heap.size)] 85) := ⟨_, rfl⟩
    have hft : Fr No w wt := by rw [hwt]; exact ((Fr.refl _ _).alloc _).alloc _
    have hTn : TabsAt wt [] (w.heap.size + 1) w.heap.size (Gz.Tc.new 0) := by rw [hwt]; exact tabs_new 0 w (by omega)
    have hst : wt.heap.size = w.heap.size + 2 := by rw [hwt, World.size_alloc, World.size_alloc]
    have hRf := rst_fresh (sp := sp) (B := w.heap.size) (lim := l) (hE.fr hft (fun k _ => no_no k)) hTn (by omega) (by omega) (fun k hk => by simp at hk) (by omega) (by omega) (Nat.le_refl _) (by simp) (by simp)
    have hfa : Fr No w (wt.alloc (.cells (fresh l (w.heap.size + 1)).cells 82)) := hft.alloc _
    have hcall := read_any sp w.heap.size wt.heap.size (w.heap.size + 1) w.heap.size [] [] Gz.M.start _ _ _ t t.data.toList rfl hRf (hP.fr hfa (by omega) (no_no _)) (by show 0 + ([] ++ t.data.toList).length ≤ 4000; simp; omega) (by show 0 + 32000 < 2 ^ 62; omega)
    have HR := hide hr
    have HC := hide hcall
    have HFA := hide hfa
    have HWT := hide hwt
    have HMR := hide (mayRead_yes t l w h1 (by omega))
    have hnt := newTables_any 0 w
    have HNT := hide hnt
    clear hr hcall hfa hft hTn hRf hwt hnt h2 hst
    go_enter Tryz.func6, Tryz.ntmps6
    go_wp2_with (go_at_call 15; refine HMR.out.mono ?_; rintro e w' ⟨rfl, hw'⟩; obtain rfl := hw'.symm)
    refine HNT.out.mono ?_
    rintro e w1 ⟨rfl, hw1⟩
    have hw1' : w1 = wt := hw1.trans HWT.out.symm
    clear hw1
    subst hw1'
    go_wp2_with fail
    refine (newReader_any l (w.heap.size + 1) w1).mono ?_
    rintro e w1' ⟨rfl, rfl⟩
    go_wp2_with fail
    refine HC.out.mono ?_
    rintro e w2 hran
    obtain ⟨hf2, k, o, q, K1', c', s', hst, hR', hps', hlim', ht', hend⟩ := hran
    have hf : Fr No w w2 := HFA.out.past hf2 (fun k hk e => by have e' := e.1; omega)
    have hread := Gz.read_final t.data.toList l
    unfold Gz.endOf at hread
    have hst : Gz.step t.data.toList l (Gz.final t.data.toList l Gz.M.start) = .error (k, o) := hst
    rw [hst] at hread
    have hpf := (Gz.final_pos t.data.toList l Gz.M.start (Nat.zero_le _)).2
    rcases hend with ⟨rfl, hq, rfl⟩ | ⟨hk2, hk8, hq, v, n, rfl, hv⟩
    · have hread : Gz.read t.data.toList l = .ok (o, (Gz.final t.data.toList l Gz.M.start).pos) := hread
      have hol : o.length ≤ l := by have := hR'.len; rw [hlim'] at this; exact this
      have HFI : Hid (Fine t.data.toList l) := by unfold Hid; intro _ _ _; rw [Int.toNat_natCast, hread]; show (o.length : Int) ≤ l; omega
      have hq : q = (Gz.final t.data.toList l Gz.M.start).pos := hq
      have hps0 : s'.ps = q / 8 := by rw [hps']; show 0 + q / 8 = _; omega
      have hpos0 : s'.pos = q % 8 := hR'.pos
      have HBG := hide (begunR_any _ s' w2 hR'.rd (by omega) (by omega))
      have HG := hide hread
      have HF := hide hf
      have HQ := hide hq
      have HPS := hide hps0
      have HPO := hide hpos0
      clear hread hR' hst hf hf2 hq ht' hps0 hpos0 hps' hlim'
      go_wp2_with fail
      refine HBG.out.mono ?_
      rintro e w3 ⟨rfl, hf3⟩
      go_wp2
      go_ret3
      refine ⟨?_, HF.out.trans hf3, HFI.out⟩
      rw [HR.out _ HG.out]
      have e1 : ((s'.ps : Int) + ((s'.pos : Int) + 7) / 8) = ((((Gz.final t.data.toList l Gz.M.start).pos + 7) / 8 : Nat) : Int) := by rw [HPS.out, HPO.out, ← HQ.out]; omega
      rw [e1]
      rfl
    · obtain ⟨k', rfl⟩ : ∃ k', k = k' + 1 := ⟨k - 1, by omega⟩
      have hread : Gz.read t.data.toList l = .error (k' + 1) := hread
      have HFI : Hid (Fine t.data.toList l) := by unfold Hid; intro _ _ _; rw [Int.toNat_natCast, hread]; exact ⟨hk2, hk8⟩
      have HR2 : Hid (Gz.inflate t.data.toList (l : Int) = ([], 0, k' + 1)) := by exact HR.out _ hread
      have htold := toldAs_any sp w2 v (k' + 1) n (hE.fr hf (fun k _ => no_no k)) (hB.fr hf) hv hk2 hk8
      obtain ⟨ty, p', rfl⟩ := hv.iface
      have HT := hide htold
      have HF := hide hf
      clear hv hread hf hf2 htold hst hR' ht' hq hps' hlim'
      go_wp2_with fail
      refine HT.out.mono ?_
      rintro e w3 ⟨rfl, hf3⟩
      go_wp2
      go_ret3
      refine ⟨?_, HF.out.trans hf3, HFI.out⟩
      rw [HR2.out]
      rfl
end Go.Proofs.YtjjjlilflbddoaaGreatDoor
