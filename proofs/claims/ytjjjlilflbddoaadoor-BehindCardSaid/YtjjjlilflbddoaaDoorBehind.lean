import Derived.Test.YtjjjlilflbddoaaDoorLaws
namespace Go.Proofs.YtjjjlilflbddoaaDoor
open Go.RowKit

/-- The law on what stands behind, of lists. -/
theorem behind_pure (d : List UInt8) (lim : Int) (F : Fine d lim) :
    ((Gz.inflate d lim).2.2 ≠ 0 → (Gz.inflate d lim).1 = [] ∧ (Gz.inflate d lim).2.1 = 0) ∧
    ((Gz.inflate d lim).2.2 = 0 → d.length ≤ 4000 ∧ 1 ≤ (Gz.inflate d lim).2.1 ∧ (Gz.inflate d lim).2.1 ≤ d.length ∧
      (∀ e : List UInt8, d.length + e.length ≤ 4000 → Gz.inflate (d ++ e) lim = Gz.inflate d lim) ∧
      ∀ m, m < (Gz.inflate d lim).2.1 → Gz.inflate (d.take m) lim = ([], 0, 2)) := by
  by_cases h4 : 4000 < d.length
  · have e : Gz.inflate d lim = ([], 0, 1) := by unfold Gz.inflate; rw [if_pos h4]
    rw [e]
    exact ⟨fun _ => ⟨rfl, rfl⟩, fun h => by cases h⟩
  by_cases hl : lim < 0 ∨ 6000 < lim
  · have e : Gz.inflate d lim = ([], 0, 11) := by unfold Gz.inflate; rw [if_neg h4, if_pos hl]
    rw [e]
    exact ⟨fun _ => ⟨rfl, rfl⟩, fun h => by cases h⟩
  · have e : ∀ (d : List UInt8), d.length ≤ 4000 → ∀ r, Gz.read d lim.toNat = r → Gz.inflate d lim = match r with | .ok (o, p) => (o, (p + 7) / 8, 0) | .error k => ([], 0, k) := fun d hd r hr => by
      subst hr
      unfold Gz.inflate; rw [if_neg (by omega), if_neg hl]
      cases Gz.read d lim.toNat <;> rfl
    have f := F (by omega) (by omega) (by omega)
    cases hr : Gz.read d lim.toNat with
    | error k =>
      rw [hr] at f
      rw [e d (by omega) _ hr]
      have h2 : 2 ≤ k := f.1
      exact ⟨fun _ => ⟨rfl, rfl⟩, fun h => by have h' : k = 0 := h; omega⟩
    | ok okk =>
      obtain ⟨o, q⟩ := okk
      have hq := Gz.read_end d lim.toNat hr
      have hq0 := Gz.read_pos d lim.toNat hr
      rw [e d (by omega) _ hr]
      refine ⟨fun h => absurd rfl h, fun _ => ⟨by omega, ?_, ?_, fun x hx => ?_, fun m hm => ?_⟩⟩
      · show 1 ≤ (q + 7) / 8
        omega
      · show (q + 7) / 8 ≤ d.length
        omega
      · exact e (d ++ x) (by simp; omega) _ (Gz.read_more d x lim.toNat hr)
      · have hm' : m < (q + 7) / 8 := hm
        exact e (d.take m) (by simp; omega) _ (Gz.read_cut d m lim.toNat hr (by omega))

set_option maxRecDepth 100000 in
set_option maxHeartbeats 4000000 in
theorem behindLaw_any (sp : Nat → Addr) (t x : ByteArray) (n lim : Int) (w : World) (h0 : -9223372036854775808 ≤ n) (h1 : n ≤ 9223372036854775807) (hxs : x.size ≤ 140737488355328) (hE : Env sp w) (hB : Blk sp w) (hP : Pow w) :
    Calls Tryd.prog 3 #[.string t, .string x, .int .i64 n, .int .i64 lim] w fun e w' => e = .returned (.bool true) ∧ Fr No w w' := by
  obtain ⟨o, c, k, hR⟩ : ∃ o c k, Gz.inflate t.data.toList lim = (o, c, k) := ⟨_, _, _, rfl⟩
  have htl : t.data.toList.length = t.size := by simp
  have hxl : x.data.toList.length = x.size := by simp
  have R := hide hR
  clear hR
  go_enter Tryd.func3, Tryd.ntmps3
  go_wp2_with fail
  refine (alive_keep sp w w ⟨hE, hB, hP, Fr.refl _ _⟩).mono ?_
  rintro e w1 ⟨rfl, hk1⟩
  have H1 := hide hk1
  clear hk1 hE hB hP
  go_wp2_with fail
  refine (infl_keep sp t lim o c k w w1 H1.out R.out).mono ?_
  rintro e w2 ⟨rfl, hk2, F⟩
  have H2 := hide hk2
  have hp := behind_pure t.data.toList lim F
  rw [R.out] at hp
  obtain ⟨hp1, hp2⟩ := hp
  clear hk2 F
  by_cases hk : k = 0
  · subst hk
    obtain ⟨hd, hc1, hcl, hmore, hcut⟩ := hp2 rfl
    simp only at hc1 hcl hmore hcut
    have HM := hide hmore
    have HC := hide hcut
    clear hp1 hp2 hmore hcut
    rw [htl] at hd hcl
    have hc4 : c ≤ 4000 := by omega
    have hb1 : ¬ (c : Int) < 1 := by omega
    have hb2 : ¬ (t.size : Int) < c := by omega
    by_cases hs : t.size + x.size ≤ 4000
    · have hs' : ((t.size : Int) + x.size ≤ 4000) := by omega
      have hadd : ∀ w : World, (Op.stringOp .add t x).run Tryd.prog w = .ok (.string (t ++ x)) w := fun w => run_string_add_sum w t x (by omega)
      have hRx : Gz.inflate (t ++ x).data.toList lim = (o, c, 0) := by
        have : (t ++ x).data.toList = t.data.toList ++ x.data.toList := by simp
        rw [this]; exact HM.out x.data.toList (by omega)
      have RX := hide hRx
      clear hRx
      go_wp2_with (go_at_call 11; refine (num_any _ _).mono ?_; rintro e w'' ⟨rfl, rfl⟩)
      refine (infl_keep sp (t ++ x) lim o c 0 w _ H2.out RX.out).mono ?_
      rintro e w4 ⟨rfl, hk4, _⟩
      have HK := hide hk4
      clear hk4
      go_wp2_with (go_at_call 11; refine (num_any _ _).mono ?_; rintro e w'' ⟨rfl, rfl⟩)
      refine (pick_any n c _ h0 h1 hc1 hc4).mono ?_
      rintro e w5 ⟨⟨r, hrc, rfl⟩, rfl⟩
      have hr0 : (0 : Int) ≤ r := by omega
      have hrt : (r : Int) ≤ t.size := by omega
      have hRc : Gz.inflate (t.extract 0 r).data.toList lim = ([], 0, 2) := by
        have : (t.extract 0 r).data.toList = t.data.toList.take r := by simp
        rw [this]; exact HC.out r hrc
      have RC := hide hRc
      clear hRc
      go_wp2_with fail
      refine (infl_keep sp (t.extract 0 r) lim [] 0 2 w _ HK.out RC.out).mono ?_
      rintro e w6 ⟨rfl, hk6, _⟩
      have H6 := hide hk6
      clear hk6
      go_wp2_with (go_at_call 11; refine (num_any _ _).mono ?_; rintro e w'' ⟨rfl, rfl⟩)
      go_ret
      exact ⟨rfl, H6.out.2.2.2⟩
    · have hs' : ¬ ((t.size : Int) + x.size ≤ 4000) := by omega
      have HK := H2
      go_wp2_with (go_at_call 11; refine (num_any _ _).mono ?_; rintro e w'' ⟨rfl, rfl⟩)
      refine (pick_any n c _ h0 h1 hc1 hc4).mono ?_
      rintro e w5 ⟨⟨r, hrc, rfl⟩, rfl⟩
      have hr0 : (0 : Int) ≤ r := by omega
      have hrt : (r : Int) ≤ t.size := by omega
      have hRc : Gz.inflate (t.extract 0 r).data.toList lim = ([], 0, 2) := by
        have : (t.extract 0 r).data.toList = t.data.toList.take r := by simp
        rw [this]; exact HC.out r hrc
      have RC := hide hRc
      clear hRc
      go_wp2_with fail
      refine (infl_keep sp (t.extract 0 r) lim [] 0 2 w _ HK.out RC.out).mono ?_
      rintro e w6 ⟨rfl, hk6, _⟩
      have H6 := hide hk6
      clear hk6
      go_wp2_with (go_at_call 11; refine (num_any _ _).mono ?_; rintro e w'' ⟨rfl, rfl⟩)
      go_ret
      exact ⟨rfl, H6.out.2.2.2⟩
  · have hk' : ¬ (k : Int) = 0 := by omega
    obtain ⟨ho, hc⟩ := hp1 hk
    simp only at ho hc
    subst ho hc
    clear hp1 hp2
    go_wp2_with (go_at_call 11; refine (num_any _ _).mono ?_; rintro e w'' ⟨rfl, rfl⟩)
    go_ret
    exact ⟨rfl, H2.out.2.2.2⟩
end Go.Proofs.YtjjjlilflbddoaaDoor
