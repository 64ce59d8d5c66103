import Derived.Test.YtjjjlilflbddoaaDoorOn
namespace Go.Proofs.YtjjjlilflbddoaaDoor
open Go.RowKit

section
variable {sp : Nat → Addr} {B rb db tsb mb : Nat} {K0 : List Nat} {d : List UInt8} {m : Gz.M} {c : Gz.Tc} {w : World} {s : RS} {e : Ending} {w' : World}
theorem BadX.shape (h : BadX sp B rb db tsb mb K0 d m c w s e w') : (∃ p, e = .panicked [{ v := .iface 98 (.pointer (some ⟨p, 0, none⟩)), recovered := false }]) ∨ ∃ ty x, e = .returned (.iface ty x) := by
  obtain ⟨m1, k, o, K', c', s', q, _, _, _, _, _, _, hb⟩ := h
  rcases hb with ⟨_, p, n, rfl, _⟩ | ⟨_, _, v, n, rfl, hv⟩
  · exact Or.inl ⟨p, rfl⟩
  · obtain ⟨ty, p, rfl⟩ := hv.iface
    exact Or.inr ⟨ty, _, rfl⟩
end
theorem step_pl1 {d : List UInt8} {lim : Nat} {m m' : Gz.M} (h : Gz.step d lim m = .ok m') (hp : m.pl = 1) : m'.pl = 2 := by
  unfold Gz.step at h
  rw [hp] at h
  obtain ⟨x, q, _, h⟩ := Gz.thenS_ok h
  cases h; rfl
theorem step_pl3 {d : List UInt8} {lim : Nat} {m m' : Gz.M} (h : Gz.step d lim m = .ok m') (hp : m.pl = 3) : m'.pl = 4 := by
  unfold Gz.step at h
  rw [hp] at h
  obtain ⟨x, q, _, h⟩ := Gz.thenS_ok h
  cases h; rfl

theorem symbols_x (sp : Nat → Addr) (B rb db tsb mb : Nat) (K0 : List Nat) (d : List UInt8) (m : Gz.M) (c : Gz.Tc) (w : World) (s : RS) (hS : Std sp B rb db tsb mb K0 d m c w s) (h : m.pl = 4) (hpos : m.pos ≤ 8 * d.length) (hso : Sound m) :
    Calls Tryd.prog 105 #[.pointer (some ⟨rb, 0, none⟩)] w (RanX sp B rb db tsb mb K0 d m c w s) := by
  obtain ⟨t, ht⟩ := hso.tab h
  exact (symbols_any sp B rb db _ s d m t w hS.at' h ht hpos).mono (fun _ _ hX => hX.x hS)
theorem bytes_x (sp : Nat → Addr) (B rb db tsb mb : Nat) (K0 : List Nat) (d : List UInt8) (m : Gz.M) (c : Gz.Tc) (w : World) (s : RS) (hS : Std sp B rb db tsb mb K0 d m c w s) (h : m.pl = 2) (hpos : m.pos ≤ 8 * d.length) (hso : Sound m) :
    Calls Tryd.prog 103 #[.pointer (some ⟨rb, 0, none⟩)] w (RanX sp B rb db tsb mb K0 d m c w s) :=
  (storedBytes_any sp B rb db _ s d m w hS.at' h (hso.le h) hpos).mono (fun _ _ hX => hX.x hS)

set_option maxRecDepth 100000 in
set_option maxHeartbeats 1600000 in
theorem goOn_any (sp : Nat → Addr) (B rb db tsb mb : Nat) (K0 : List Nat) (d : List UInt8) (m : Gz.M) (c : Gz.Tc) (w : World) (s : RS) (hS : Std sp B rb db tsb mb K0 d m c w s) (hso : Sound m) (hpl : m.pl ≤ 4) (hpos : m.pos ≤ 8 * d.length) (hask : c.asked < 2 ^ 62) :
    Calls Tryd.prog 73 #[.pointer (some ⟨rb, 0, none⟩)] w (RanX sp B rb db tsb mb K0 d m c w s) := by
  have hne := neq_err
  have hnn := neq_nil
  have hcase : m.pl = 0 ∨ m.pl = 1 ∨ m.pl = 2 ∨ m.pl = 3 ∨ m.pl = 4 := by omega
  rcases hcase with h | h | h | h | h
  · have k5 : w.cell? ⟨rb, 6, none⟩ = some (.int .i64 0) := by rw [hS.at'.live.rd.c5, hS.at'.pl, h]; rfl
    go_enter Tryd.func73, Tryd.ntmps73
    go_wp2_with fail
    refine (head_x sp B rb db tsb mb K0 d m c w s hS h hpos).mono ?_
    rintro e w1 hX0
    obtain ⟨f1, hX⟩ := hX0
    rcases hX with ⟨rfl, hg⟩ | hb
    · have HGD := hide hg
      clear hg
      go_wp2
      go_ret
      exact ⟨f1, Or.inl ⟨rfl, HGD.out⟩⟩
    · rcases hb.shape with ⟨p, rfl⟩ | ⟨ty, x, rfl⟩
      · have HBD := hide hb
        clear hb
        go_wp2
        exact bodyPost_panic rfl (⟨f1, Or.inr HBD.out⟩)
      · have HBD := hide hb
        clear hb
        go_wp2
        go_ret
        exact ⟨f1, Or.inr HBD.out⟩
  · have k5 : w.cell? ⟨rb, 6, none⟩ = some (.int .i64 1) := by rw [hS.at'.live.rd.c5, hS.at'.pl, h]; rfl
    go_enter Tryd.func73, Tryd.ntmps73
    go_wp2_with fail
    refine (sizes_x sp B rb db tsb mb K0 d m c w s hS h hpos).mono ?_
    rintro e w1 ⟨f1, ⟨rfl, m1, K1, c1, s1, hst, hS1, hk1, ht1⟩ | hb⟩
    · have hl1 := LeadX.one hpos hst
      have hpl1 := step_pl1 hst h
      have HL1 := hide hl1
      have HT1 := hide ht1
      have HK1 := hide hk1
      have HS1 := hide hS1
      have HCALL := hide (bytes_x sp B rb db tsb mb K1 d m1 c1 w1 s1 hS1 hpl1 hl1.upto (hl1.sound hso))
      clear hl1 ht1 hk1 hS1 hst
      go_wp2_with fail
      refine HCALL.out.mono ?_
      rintro e w2 hX0
      have hX0 := hX0.after f1 HL1.out HK1.out HT1.out
      obtain ⟨f2, hX⟩ := hX0
      rcases hX with ⟨rfl, hg⟩ | hb
      · have HGD := hide hg
        clear hg
        go_wp2
        go_ret
        exact ⟨f2, Or.inl ⟨rfl, HGD.out⟩⟩
      · rcases hb.shape with ⟨p, rfl⟩ | ⟨ty, x, rfl⟩
        · have HBD := hide hb
          clear hb
          go_wp2
          exact bodyPost_panic rfl (⟨f2, Or.inr HBD.out⟩)
        · have HBD := hide hb
          clear hb
          go_wp2
          go_ret
          exact ⟨f2, Or.inr HBD.out⟩
    · rcases hb.shape with ⟨p, rfl⟩ | ⟨ty, x, rfl⟩
      · have HBD := hide hb
        clear hb
        go_wp2
        exact bodyPost_panic rfl (⟨f1, Or.inr HBD.out⟩)
      · have HBD := hide hb
        clear hb
        go_wp2
        go_ret
        exact ⟨f1, Or.inr HBD.out⟩
  · have k5 : w.cell? ⟨rb, 6, none⟩ = some (.int .i64 2) := by rw [hS.at'.live.rd.c5, hS.at'.pl, h]; rfl
    go_enter Tryd.func73, Tryd.ntmps73
    go_wp2_with fail
    refine (bytes_x sp B rb db tsb mb K0 d m c w s hS h hpos hso).mono ?_
    rintro e w1 hX0
    obtain ⟨f1, hX⟩ := hX0
    rcases hX with ⟨rfl, hg⟩ | hb
    · have HGD := hide hg
      clear hg
      go_wp2
      go_ret
      exact ⟨f1, Or.inl ⟨rfl, HGD.out⟩⟩
    · rcases hb.shape with ⟨p, rfl⟩ | ⟨ty, x, rfl⟩
      · have HBD := hide hb
        clear hb
        go_wp2
        exact bodyPost_panic rfl (⟨f1, Or.inr HBD.out⟩)
      · have HBD := hide hb
        clear hb
        go_wp2
        go_ret
        exact ⟨f1, Or.inr HBD.out⟩
  · have k5 : w.cell? ⟨rb, 6, none⟩ = some (.int .i64 3) := by rw [hS.at'.live.rd.c5, hS.at'.pl, h]; rfl
    go_enter Tryd.func73, Tryd.ntmps73
    go_wp2_with fail
    refine (codes_x sp B rb db tsb mb K0 d m c w s hS h hpos hask).mono ?_
    rintro e w1 ⟨f1, ⟨rfl, m1, K1, c1, s1, hst, hS1, hk1, ht1⟩ | hb⟩
    · have hl1 := LeadX.one hpos hst
      have hpl1 := step_pl3 hst h
      have HL1 := hide hl1
      have HT1 := hide ht1
      have HK1 := hide hk1
      have HS1 := hide hS1
      have HCALL := hide (symbols_x sp B rb db tsb mb K1 d m1 c1 w1 s1 hS1 hpl1 hl1.upto (hl1.sound hso))
      clear hl1 ht1 hk1 hS1 hst
      go_wp2_with fail
      refine HCALL.out.mono ?_
      rintro e w2 hX0
      have hX0 := hX0.after f1 HL1.out HK1.out HT1.out
      obtain ⟨f2, hX⟩ := hX0
      rcases hX with ⟨rfl, hg⟩ | hb
      · have HGD := hide hg
        clear hg
        go_wp2
        go_ret
        exact ⟨f2, Or.inl ⟨rfl, HGD.out⟩⟩
      · rcases hb.shape with ⟨p, rfl⟩ | ⟨ty, x, rfl⟩
        · have HBD := hide hb
          clear hb
          go_wp2
          exact bodyPost_panic rfl (⟨f2, Or.inr HBD.out⟩)
        · have HBD := hide hb
          clear hb
          go_wp2
          go_ret
          exact ⟨f2, Or.inr HBD.out⟩
    · rcases hb.shape with ⟨p, rfl⟩ | ⟨ty, x, rfl⟩
      · have HBD := hide hb
        clear hb
        go_wp2
        exact bodyPost_panic rfl (⟨f1, Or.inr HBD.out⟩)
      · have HBD := hide hb
        clear hb
        go_wp2
        go_ret
        exact ⟨f1, Or.inr HBD.out⟩
  · have k5 : w.cell? ⟨rb, 6, none⟩ = some (.int .i64 4) := by rw [hS.at'.live.rd.c5, hS.at'.pl, h]; rfl
    go_enter Tryd.func73, Tryd.ntmps73
    go_wp2_with fail
    refine (symbols_x sp B rb db tsb mb K0 d m c w s hS h hpos hso).mono ?_
    rintro e w1 hX0
    obtain ⟨f1, hX⟩ := hX0
    rcases hX with ⟨rfl, hg⟩ | hb
    · have HGD := hide hg
      clear hg
      go_wp2
      go_ret
      exact ⟨f1, Or.inl ⟨rfl, HGD.out⟩⟩
    · rcases hb.shape with ⟨p, rfl⟩ | ⟨ty, x, rfl⟩
      · have HBD := hide hb
        clear hb
        go_wp2
        exact bodyPost_panic rfl (⟨f1, Or.inr HBD.out⟩)
      · have HBD := hide hb
        clear hb
        go_wp2
        go_ret
        exact ⟨f1, Or.inr HBD.out⟩
end Go.Proofs.YtjjjlilflbddoaaDoor
