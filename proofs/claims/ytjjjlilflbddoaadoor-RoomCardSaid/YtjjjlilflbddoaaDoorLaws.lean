import Derived.Test.YtjjjlilflbddoaaDoorInfl
import Derived.Test.YtjjjlilflbddoaaDoorLaw
namespace Go.Proofs.YtjjjlilflbddoaaDoor
open Go.RowKit

theorem num_any (z : Int) (w : World) : Calls Tryd.prog 11 #[.int .i64 z] w fun e w' => e = .returned (.int .i64 z) ∧ w' = w := by
  go_enter Tryd.func11, Tryd.ntmps11
  go_wp2
  go_ret
  exact ⟨rfl, rfl⟩

theorem pick_any (n : Int) (k : Nat) (w : World) (h0 : -9223372036854775808 ≤ n) (h1 : n ≤ 9223372036854775807) (hk : 1 ≤ k) (hk2 : k ≤ 4000) : Calls Tryd.prog 12 #[.int .i64 n, .int .i64 k] w fun e w' => (∃ r : Nat, r < k ∧ e = .returned (.int .i64 r)) ∧ w' = w := by
  by_cases hn : n < 0
  · go_enter Tryd.func12, Tryd.ntmps12
    go_wp2
    go_ret
    obtain ⟨m, hm⟩ : ∃ m : Nat, n + 1 = -(m : Int) := ⟨(-(n + 1)).toNat, by omega⟩
    refine ⟨⟨m % k, Nat.mod_lt _ (by omega), ?_⟩, rfl⟩
    have : -((n + 1).tmod k) = ((m % k : Nat) : Int) := by rw [hm, Int.neg_tmod, Int.neg_neg]; exact Int.ofNat_tmod m k
    exact congrArg (fun z => Ending.returned (.int .i64 z)) this
  · go_enter Tryd.func12, Tryd.ntmps12
    go_wp2
    go_ret
    obtain ⟨m, rfl⟩ : ∃ m : Nat, n = m := ⟨n.toNat, by omega⟩
    exact ⟨⟨m % k, Nat.mod_lt _ (by omega), rfl⟩, rfl⟩

theorem alive_any (sp : Nat → Addr) (w : World) (hE : Env sp w) (hB : Blk sp w) (hP : Pow w) :
    Calls Tryd.prog 9 #[] w fun e w' => e = .returned (.bool true) ∧ Fr No w w' := by
  have hcall := inflate_any sp ⟨#[75, 4, 0]⟩ 1 w hE hB hP
  have ha : Gz.inflate (ByteArray.mk #[75, 4, 0]).data.toList 1 = ([97], 3, 0) := Gz.alive_inflate
  rw [ha] at hcall
  go_enter Tryd.func9, Tryd.ntmps9
  go_wp2_with fail
  refine hcall.mono ?_
  rintro e w' ⟨rfl, hf, _⟩
  unfold got
  go_wp2_with (go_at_call 11; refine (num_any _ _).mono ?_; rintro e w'' ⟨rfl, rfl⟩)
  go_ret
  exact ⟨rfl, hf⟩

/-- The room law, of lists. -/
theorem room_pure (d : List UInt8) (x y : Int) (hxy : x ≤ y) (F1 : Fine d x) (F2 : Fine d y) :
    ((x < 0 ∨ 6000 < y) → ((Gz.inflate d x).1 = [] ∨ (Gz.inflate d y).1 = []) ∧ ((Gz.inflate [] y).2.2 = 2 ∨ (Gz.inflate [] y).2.2 = 11)) ∧
    (¬ (x < 0 ∨ 6000 < y) → (Gz.inflate [] y).2.2 = 2 ∧
      ((Gz.inflate d x = ([], 0, 8) ∧ ((Gz.inflate d y).2.2 ≠ 0 ∨ x < ((Gz.inflate d y).1.length : Int))) ∨
       ((Gz.inflate d x).2.2 ≠ 8 ∧ Gz.inflate d y = Gz.inflate d x ∧ ((Gz.inflate d x).1.length : Int) ≤ x))) := by
  have hnil : ∀ z : Int, ¬ (z < 0 ∨ 6000 < z) → Gz.inflate [] z = ([], 0, 2) := fun z hz => by
    unfold Gz.inflate; rw [if_neg (by simp), if_neg hz, Gz.read_nil]
  have hbad : ∀ (d : List UInt8) (z : Int), (z < 0 ∨ 6000 < z) → (Gz.inflate d z).1 = [] := fun d z hz => by
    unfold Gz.inflate
    split
    · rfl
    · rfl
  refine ⟨fun h => ⟨?_, ?_⟩, fun h => ⟨?_, ?_⟩⟩
  · rcases h with h | h
    · exact .inl (hbad d x (.inl h))
    · exact .inr (hbad d y (.inr h))
  · by_cases hy : y < 0 ∨ 6000 < y
    · right; unfold Gz.inflate; rw [if_neg (by simp), if_pos hy]
    · left; rw [hnil y hy]
  · rw [hnil y (by omega)]
  · by_cases h4 : 4000 < d.length
    · right
      have e : ∀ z, Gz.inflate d z = ([], 0, 1) := fun z => by unfold Gz.inflate; rw [if_pos h4]
      rw [e, e]
      exact ⟨by decide, rfl, by simp; omega⟩
    · have e : ∀ z : Int, ¬ (z < 0 ∨ 6000 < z) → ∀ r, Gz.read d z.toNat = r → Gz.inflate d z = match r with | .ok (o, p) => (o, (p + 7) / 8, 0) | .error k => ([], 0, k) := fun z hz r hr => by
        subst hr
        unfold Gz.inflate; rw [if_neg h4, if_neg hz]
        cases Gz.read d z.toNat <;> rfl
      have L := Gz.read_lim d x.toNat y.toNat (by omega)
      have f1 := F1 (by omega) (by omega) (by omega)
      have f2 := F2 (by omega) (by omega) (by omega)
      by_cases h8 : Gz.read d x.toNat = .error 8
      · left
        rw [e x (by omega) _ h8]
        refine ⟨rfl, ?_⟩
        cases hy : Gz.read d y.toNat with
        | ok okk =>
          obtain ⟨o, q⟩ := okk
          right
          rw [e y (by omega) _ hy]
          have := L.more h8 o q hy
          show x < (o.length : Int)
          omega
        | error k =>
          left
          rw [e y (by omega) _ hy]
          rw [hy] at f2
          have h2 : 2 ≤ k := f2.1
          show k ≠ 0
          omega
      · right
        have hs := L.same h8
        cases hx : Gz.read d x.toNat with
        | ok okk =>
          obtain ⟨o, q⟩ := okk
          rw [hx] at hs f1
          rw [e x (by omega) _ hx, e y (by omega) _ hs]
          exact ⟨by show (0 : Nat) ≠ 8; decide, rfl, f1⟩
        | error k =>
          rw [hx] at hs
          rw [e x (by omega) _ hx, e y (by omega) _ hs]
          refine ⟨fun h => h8 ?_, rfl, by simp; omega⟩
          have h' : k = 8 := h
          rw [hx, h']

def Keep (sp : Nat → Addr) (w w' : World) : Prop := Env sp w' ∧ Blk sp w' ∧ Pow w' ∧ Fr No w w'
theorem infl_keep (sp : Nat → Addr) (t : ByteArray) (lim : Int) (o : List UInt8) (c k : Nat) (w w1 : World) (h : Keep sp w w1) (hR : Gz.inflate t.data.toList lim = (o, c, k)) :
    Calls Tryd.prog 10 #[.string t, .int .i64 lim] w1 fun e w' => e = .returned (.tuple #[.string ⟨o.toArray⟩, .int .i64 c, .int .i64 k]) ∧ Keep sp w w' ∧ Fine t.data.toList lim := by
  refine (inflate_any sp t lim w1 h.1 h.2.1 h.2.2.1).mono ?_
  rintro e w2 ⟨rfl, hf, F⟩
  refine ⟨by rw [hR]; rfl, ⟨h.1.fr hf (fun k _ => no_no k), h.2.1.fr hf, h.2.2.1.fr hf (by have := h.1.size; omega) (no_no _), h.2.2.2.trans hf⟩, F⟩
theorem alive_keep (sp : Nat → Addr) (w w1 : World) (h : Keep sp w w1) : Calls Tryd.prog 9 #[] w1 fun e w' => e = .returned (.bool true) ∧ Keep sp w w' := by
  refine (alive_any sp w1 h.1 h.2.1 h.2.2.1).mono ?_
  rintro e w2 ⟨rfl, hf⟩
  exact ⟨rfl, h.1.fr hf (fun k _ => no_no k), h.2.1.fr hf, h.2.2.1.fr hf (by have := h.1.size; omega) (no_no _), h.2.2.2.trans hf⟩

set_option maxRecDepth 100000 in
set_option maxHeartbeats 4000000 in
theorem room_any (sp : Nat → Addr) (t : ByteArray) (a b : Int) (w : World) (hE : Env sp w) (hB : Blk sp w) (hP : Pow w) :
    Calls Tryd.prog 4 #[.string t, .int .i64 a, .int .i64 b] w fun e w' => e = .returned (.bool true) ∧ Fr No w w' := by
  go_enter Tryd.func4, Tryd.ntmps4
  go_wp2_with fail
  refine (alive_keep sp w w ⟨hE, hB, hP, Fr.refl _ _⟩).mono ?_
  rintro e w1 ⟨rfl, hk1⟩
  have H1 := hide hk1
  clear hk1 hE hB hP
  by_cases hab : b < a
  · obtain ⟨o1, c1, k1, hR1⟩ : ∃ o c k, Gz.inflate t.data.toList b = (o, c, k) := ⟨_, _, _, rfl⟩
    obtain ⟨o2, c2, k2, hR2⟩ : ∃ o c k, Gz.inflate t.data.toList a = (o, c, k) := ⟨_, _, _, rfl⟩
    obtain ⟨o3, c3, k3, hR3⟩ : ∃ o c k, Gz.inflate (ByteArray.mk #[]).data.toList a = (o, c, k) := ⟨_, _, _, rfl⟩
    have R3' : Hid (Gz.inflate [] a = (o3, c3, k3)) := hR3
    have R1 := hide hR1
    have R2 := hide hR2
    have R3 := hide hR3
    clear hR1 hR2 hR3
    go_wp2_with fail
    refine (infl_keep sp t b o1 c1 k1 w w1 H1.out R1.out).mono ?_
    rintro e w2 ⟨rfl, hk2, F1⟩
    have H2 := hide hk2
    have HF1 := hide F1
    clear hk2 F1
    go_wp2_with fail
    refine (infl_keep sp t a o2 c2 k2 w w2 H2.out R2.out).mono ?_
    rintro e w3 ⟨rfl, hk3, F2⟩
    have H3 := hide hk3
    have HF2 := hide F2
    clear hk3 F2
    go_wp2_with fail
    refine (infl_keep sp ⟨#[]⟩ a o3 c3 k3 w w3 H3.out R3.out).mono ?_
    rintro e w4 ⟨rfl, hk4, _⟩
    have H4 := hide hk4
    clear hk4
    have hp := room_pure t.data.toList b a (by omega) HF1.out HF2.out
    rw [R1.out, R2.out, R3'.out] at hp
    obtain ⟨hp1, hp2⟩ := hp
    by_cases hc : b < 0 ∨ 6000 < a
    · obtain ⟨ho, hk⟩ := hp1 hc
      clear hp1 hp2
      have ho' : o1 = [] ∨ (o1 ≠ [] ∧ o2 = []) := by
        by_cases h : o1 = []
        · exact .inl h
        · rcases ho with ho | ho
          · exact absurd ho h
          · exact .inr ⟨h, ho⟩
      simp only at hk
      clear ho
      rcases ho' with rfl | ⟨hne, rfl⟩
      · rcases hc with hc | hc
        · rcases hk with rfl | rfl
          all_goals
            go_wp2_with (go_at_call 11; refine (num_any _ _).mono ?_; rintro e w'' ⟨rfl, rfl⟩)
            go_ret
            exact ⟨rfl, H4.out.2.2.2⟩
        · by_cases hx0 : b < 0
          all_goals
            rcases hk with rfl | rfl
            all_goals
              go_wp2_with (go_at_call 11; refine (num_any _ _).mono ?_; rintro e w'' ⟨rfl, rfl⟩)
              go_ret
              exact ⟨rfl, H4.out.2.2.2⟩
      · have hne' : ¬ ByteArray.mk o1.toArray = ByteArray.mk #[] := fun h => hne (by have := congrArg (fun b : ByteArray => b.data.toList) h; simpa using this)
        by_cases hx0 : b < 0
        all_goals
          rcases hk with rfl | rfl
          all_goals
            go_wp2_with (go_at_call 11; refine (num_any _ _).mono ?_; rintro e w'' ⟨rfl, rfl⟩)
            all_goals
              go_ret
              exact ⟨rfl, H4.out.2.2.2⟩
    · obtain ⟨hk3, hrest⟩ := hp2 hc
      have hk3 : k3 = 2 := hk3
      subst hk3
      clear hp1 hp2
      have hx0 : ¬ b < 0 := by omega
      have hy0 : ¬ 6000 < a := by omega
      rcases hrest with ⟨he, hr⟩ | ⟨hk8, he, hlen⟩
      · cases he
        have hr' : k2 ≠ 0 ∨ (k2 = 0 ∧ b < (o2.length : Int)) := by
          by_cases h : k2 = 0
          · rcases hr with hr | hr
            · exact absurd h hr
            · exact .inr ⟨h, hr⟩
          · exact .inl h
        clear hr
        rcases hr' with hz | ⟨rfl, hz⟩
        · have hz' : ¬ (k2 : Int) = 0 := by omega
          go_wp2_with (go_at_call 11; refine (num_any _ _).mono ?_; rintro e w'' ⟨rfl, rfl⟩)
          all_goals
            go_ret
            exact ⟨rfl, H4.out.2.2.2⟩
        · go_wp2_with (go_at_call 11; refine (num_any _ _).mono ?_; rintro e w'' ⟨rfl, rfl⟩)
          all_goals
            go_ret
            exact ⟨rfl, H4.out.2.2.2⟩
      · have hk8' : ¬ (k1 : Int) = 8 := by have : k1 ≠ 8 := hk8; omega
        have hlen' : (o1.length : Int) ≤ b := hlen
        cases he
        clear hk8 hlen
        go_wp2_with (go_at_call 11; refine (num_any _ _).mono ?_; rintro e w'' ⟨rfl, rfl⟩)
        all_goals
          go_ret
          exact ⟨rfl, H4.out.2.2.2⟩
  · obtain ⟨o1, c1, k1, hR1⟩ : ∃ o c k, Gz.inflate t.data.toList a = (o, c, k) := ⟨_, _, _, rfl⟩
    obtain ⟨o2, c2, k2, hR2⟩ : ∃ o c k, Gz.inflate t.data.toList b = (o, c, k) := ⟨_, _, _, rfl⟩
    obtain ⟨o3, c3, k3, hR3⟩ : ∃ o c k, Gz.inflate (ByteArray.mk #[]).data.toList b = (o, c, k) := ⟨_, _, _, rfl⟩
    have R3' : Hid (Gz.inflate [] b = (o3, c3, k3)) := hR3
    have R1 := hide hR1
    have R2 := hide hR2
    have R3 := hide hR3
    clear hR1 hR2 hR3
    go_wp2_with fail
    refine (infl_keep sp t a o1 c1 k1 w w1 H1.out R1.out).mono ?_
    rintro e w2 ⟨rfl, hk2, F1⟩
    have H2 := hide hk2
    have HF1 := hide F1
    clear hk2 F1
    go_wp2_with fail
    refine (infl_keep sp t b o2 c2 k2 w w2 H2.out R2.out).mono ?_
    rintro e w3 ⟨rfl, hk3, F2⟩
    have H3 := hide hk3
    have HF2 := hide F2
    clear hk3 F2
    go_wp2_with fail
    refine (infl_keep sp ⟨#[]⟩ b o3 c3 k3 w w3 H3.out R3.out).mono ?_
    rintro e w4 ⟨rfl, hk4, _⟩
    have H4 := hide hk4
    clear hk4
    have hp := room_pure t.data.toList a b (by omega) HF1.out HF2.out
    rw [R1.out, R2.out, R3'.out] at hp
    obtain ⟨hp1, hp2⟩ := hp
    by_cases hc : a < 0 ∨ 6000 < b
    · obtain ⟨ho, hk⟩ := hp1 hc
      clear hp1 hp2
      have ho' : o1 = [] ∨ (o1 ≠ [] ∧ o2 = []) := by
        by_cases h : o1 = []
        · exact .inl h
        · rcases ho with ho | ho
          · exact absurd ho h
          · exact .inr ⟨h, ho⟩
      simp only at hk
      clear ho
      rcases ho' with rfl | ⟨hne, rfl⟩
      · rcases hc with hc | hc
        · rcases hk with rfl | rfl
          all_goals
            go_wp2_with (go_at_call 11; refine (num_any _ _).mono ?_; rintro e w'' ⟨rfl, rfl⟩)
            go_ret
            exact ⟨rfl, H4.out.2.2.2⟩
        · by_cases hx0 : a < 0
          all_goals
            rcases hk with rfl | rfl
            all_goals
              go_wp2_with (go_at_call 11; refine (num_any _ _).mono ?_; rintro e w'' ⟨rfl, rfl⟩)
              go_ret
              exact ⟨rfl, H4.out.2.2.2⟩
      · have hne' : ¬ ByteArray.mk o1.toArray = ByteArray.mk #[] := fun h => hne (by have := congrArg (fun b : ByteArray => b.data.toList) h; simpa using this)
        by_cases hx0 : a < 0
        all_goals
          rcases hk with rfl | rfl
          all_goals
            go_wp2_with (go_at_call 11; refine (num_any _ _).mono ?_; rintro e w'' ⟨rfl, rfl⟩)
            all_goals
              go_ret
              exact ⟨rfl, H4.out.2.2.2⟩
    · obtain ⟨hk3, hrest⟩ := hp2 hc
      have hk3 : k3 = 2 := hk3
      subst hk3
      clear hp1 hp2
      have hx0 : ¬ a < 0 := by omega
      have hy0 : ¬ 6000 < b := by omega
      rcases hrest with ⟨he, hr⟩ | ⟨hk8, he, hlen⟩
      · cases he
        have hr' : k2 ≠ 0 ∨ (k2 = 0 ∧ a < (o2.length : Int)) := by
          by_cases h : k2 = 0
          · rcases hr with hr | hr
            · exact absurd h hr
            · exact .inr ⟨h, hr⟩
          · exact .inl h
        clear hr
        rcases hr' with hz | ⟨rfl, hz⟩
        · have hz' : ¬ (k2 : Int) = 0 := by omega
          go_wp2_with (go_at_call 11; refine (num_any _ _).mono ?_; rintro e w'' ⟨rfl, rfl⟩)
          all_goals
            go_ret
            exact ⟨rfl, H4.out.2.2.2⟩
        · go_wp2_with (go_at_call 11; refine (num_any _ _).mono ?_; rintro e w'' ⟨rfl, rfl⟩)
          all_goals
            go_ret
            exact ⟨rfl, H4.out.2.2.2⟩
      · have hk8' : ¬ (k1 : Int) = 8 := by have : k1 ≠ 8 := hk8; omega
        have hlen' : (o1.length : Int) ≤ a := hlen
        cases he
        clear hk8 hlen
        go_wp2_with (go_at_call 11; refine (num_any _ _).mono ?_; rintro e w'' ⟨rfl, rfl⟩)
        all_goals
          go_ret
          exact ⟨rfl, H4.out.2.2.2⟩
end Go.Proofs.YtjjjlilflbddoaaDoor
