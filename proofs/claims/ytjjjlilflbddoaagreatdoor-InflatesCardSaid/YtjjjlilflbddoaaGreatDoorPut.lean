import Derived.Test.YtjjjlilflbddoaaGreatDoorBase
import Derived.Deep.AppendLies
namespace Go.Proofs.YtjjjlilflbddoaaGreatDoor
open Go.RowKit

theorem info5 : (Tryz.prog.info? 5).map (fun i => (i.zero, i.size, i.bytes)) = some (some (.int .u8 0), 1, 1) := by kernel_rfl

/-- The reader or what its bytes lie in. -/
def Two (rb : Nat) (ov : Value) : Nat → Prop := fun k => k = rb ∨ ov.ownBlock = some k

set_option maxHeartbeats 800000 in
set_option maxRecDepth 100000 in
theorem put_ok (B rb : Nat) (s : RS) (out : List UInt8) (c : UInt8) (w : World) (hB : B ≤ w.heap.size) (hr : Rd w rb s) (ho : w.ownsRow B 5 1 s.ov out.length (out.map bv)) (hne : s.ov.ownBlock ≠ some rb) (hl : out.length < s.lim) (h6 : s.lim ≤ 6000) :
    Calls Tryz.prog 112 #[.pointer (some ⟨rb, 0, none⟩), .int .u8 c.toNat] w fun e w' => e = .returned .nilIface ∧ ∃ g cap,
      Rd w' rb { s with ov := .slice (some ⟨g, 0, none⟩) (out.length + 1) cap } ∧ w'.ownsRow B 5 1 (.slice (some ⟨g, 0, none⟩) (out.length + 1) cap) (out ++ [c]).length ((out ++ [c]).map bv) ∧ (s.ov.ownBlock = some g ∨ w.heap.size ≤ g) ∧ Fr (Two rb s.ov) w w' := by
  obtain ⟨i0, hi, hz0, hz1, hz2⟩ := info_parts info5
  have h4 := hr.c4
  have h3 := hr.c3
  have f4 := hr.fz 5
  have hlt := hr.lt
  obtain ⟨ao, cap0, hov⟩ : ∃ ao cap0, s.ov = .slice ao out.length cap0 := by
    rcases ho.2 with ⟨h, h0⟩ | ⟨g, cap, cur, h, _⟩
    · exact ⟨none, 0, by rw [h, h0]⟩
    · exact ⟨_, _, h⟩
  rw [hov] at h4
  have HR := hide hr
  have HO := hide ho
  have HV := hide hov
  have HN := hide hne
  clear hr ho hov hne
  go_enter Tryz.func112, Tryz.ntmps112
  go_wp2
  go_quiet (fail)
  go_wp2_with (at_builtin; refine wpList_append_lies _ rfl (.tmp 20) (.tmp 22) 61 rfl B 5 i0 (.int .u8 0) 1 1 Tryz.underlying61 hi hz0 hz1 hz2 rfl (by decide) (.slice ao out.length cap0) out.length (out.map bv) rfl ?hown ⟨w.heap.size, 0, none⟩ 1 1 [bv c] rfl rfl ?hnews ?h1 (by decide) ?h63 ?hb ?hbase _ rfl ?hK)
  case hown => exact ownsRow_fr (S := No) (HV.out ▸ HO.out) (((Fr.refl _ _).drewN _).alloc _) (fun _ _ => no_no _)
  case hnews => intro j u hj; match j, hj with | 0, hj => simp at hj; subst hj; exact cell_of (alloc_at (World.drewN w _) _) 0
  case h1 => intro u hu; simp at hu; subst hu; rfl
  case h63 => unfold maxLen; omega
  case hb => omega
  case hbase => simp; omega
  case hK =>
    intro g cap w1 hown hgrow hat hlt1
    have hf1 : Fr (Two rb s.ov) w w1 := ((((Fr.refl _ _).drewN _).alloc _).grown hgrow (fun k hk _ => Or.inr (by rw [HV.out]; exact hk)))
    have hfo : Fr (fun k => s.ov.ownBlock = some k) w w1 := ((((Fr.refl _ _).drewN _).alloc _).grown hgrow (fun k hk _ => by rw [HV.out]; exact hk))
    have hr1 : Rd w1 rb s := HR.out.fr hfo HN.out
    have k4 := hr1.c4
    have e4 := hr1.fz 5
    have HO1 := hide hown
    have HG := hide hgrow
    have HA := hide hat
    clear hown hgrow hat hfo
    go_wp2
    go_ret
    have hgr : g ≠ rb := by
      intro e
      rcases HA.out with h | h
      · exact HN.out (by rw [HV.out, h, e])
      · have : w.heap.size ≤ g := by rw [h]; simp
        omega
    refine ⟨rfl, g, cap, hr1.s4 _, ?_, ?_, hf1.setCell (fun _ => Or.inl rfl) _⟩
    · have := ownsRow_fr HO1.out (Fr.setCell (S := One rb) (Fr.refl _ w1) (p := ⟨rb, 5, none⟩) (fun _ => one_self rb) (.slice (some ⟨g, 0, none⟩) (out.length + 1) cap)) (fun k hk e => hgr (by simp [Value.ownBlock] at hk; rw [hk]; exact e))
      simpa using this
    · rcases HA.out with h | h
      · exact Or.inl (by rw [HV.out]; exact h)
      · exact Or.inr (by rw [h]; simp)

set_option maxHeartbeats 800000 in
theorem put_no (sp : Nat → Addr) (rb : Nat) (s : RS) (n cap : Nat) (ao : Option Addr) (c : UInt8) (w : World) (hE : Env sp w) (hr : Rd w rb s) (hov : s.ov = .slice ao n cap) (hl : s.lim ≤ n) :
    Calls Tryz.prog 112 #[.pointer (some ⟨rb, 0, none⟩), .int .u8 c.toNat] w fun e w' => e = .returned (.iface 248 (.pointer (some (sp 8)))) ∧ Fr No w w' := by
  have h4 := hr.c4
  rw [hov] at h4
  have h3 := hr.c3
  have hsent : w.cell? ⟨12, 0, none⟩ = some (.iface 248 (.pointer (some (sp 8)))) := hE.err 8 (by omega) (by omega)
  clear hov
  go_enter Tryz.func112, Tryz.ntmps112
  go_wp2
  go_quiet (fail)
  go_wp2
  go_ret
  exact ⟨rfl, (Fr.refl _ _).drewN _⟩
end Go.Proofs.YtjjjlilflbddoaaGreatDoor
