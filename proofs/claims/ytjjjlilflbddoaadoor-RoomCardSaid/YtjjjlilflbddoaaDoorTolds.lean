import Derived.Test.YtjjjlilflbddoaaDoorAs
namespace Go.Proofs.YtjjjlilflbddoaaDoor
open Go.RowKit

theorem Fr.past {S : Nat → Prop} {w w1 w2 : World} (h : Fr No w w1) (h2 : Fr S w1 w2) (hs : ∀ k, k < w.heap.size → ¬ S k) : Fr No w w2 :=
  ⟨h2.os.trans h.os, h2.tape.trans h.tape, h2.output.trans h.output, Nat.le_trans h.size h2.size, fun k hk _ => (h2.block k (Nat.lt_of_lt_of_le hk h.size) (hs k hk)).trans (h.block k hk (no_no k))⟩
theorem Blk.fr {sp : Nat → Addr} {w w' : World} (h : Blk sp w) (f : Fr No w w') : Blk sp w' := fun k h3 h8 => by
  obtain ⟨c, t, hc⟩ := h k h3 h8
  exact ⟨c, t, f.at hc (no_no _)⟩

set_option maxRecDepth 100000 in
set_option maxHeartbeats 4000000 in
theorem toldAs_any (sp : Nat → Addr) (w : World) (v0 : Value) (k n0 : Nat) (hE : Env sp w) (hB : Blk sp w) (h : Err sp w v0 k n0) (h2 : 2 ≤ k) (h8 : k ≤ 8) :
    Calls Tryd.prog 34 #[v0] w fun e w' => e = .returned (.int .i64 k) ∧ Fr No w w' := by
  obtain ⟨ty, q, rfl⟩ : ∃ t p, v0 = .iface t (.pointer (some p)) := h.iface
  have hal : Fr No w (w.alloc (.cells #[.pointer none] 98)) := (Fr.refl _ _).alloc _
  have hcall := As_any sp _ (.iface ty (.pointer (some q))) k n0 w.heap.size (hE.fr hal (fun k _ => no_no k)) (h.fr hal) (.pointer none) (alloc_at w _)
  go_enter Tryd.func34, Tryd.ntmps34
  go_wp2_with fail
  refine hcall.mono ?_
  rintro e w2 ⟨rfl, hf2⟩
  have hf : Fr No w w2 := hal.past hf2 (fun k hk => one_ne (by omega))
  have hE2 := hE.fr hf (fun k _ => no_no k)
  have hB2 := hB.fr hf
  have hv2 := h.fr hf
  have hinj := hE.inj
  have g3 : w2.cell? ⟨0, 0, none⟩ = some (.iface 245 (.pointer (some (sp 3)))) := hE2.err 3 (by decide) (by decide)
  have g4 : w2.cell? ⟨1, 0, none⟩ = some (.iface 245 (.pointer (some (sp 4)))) := hE2.err 4 (by decide) (by decide)
  have g5 : w2.cell? ⟨2, 0, none⟩ = some (.iface 245 (.pointer (some (sp 5)))) := hE2.err 5 (by decide) (by decide)
  have g6 : w2.cell? ⟨3, 0, none⟩ = some (.iface 245 (.pointer (some (sp 6)))) := hE2.err 6 (by decide) (by decide)
  have g7 : w2.cell? ⟨4, 0, none⟩ = some (.iface 245 (.pointer (some (sp 7)))) := hE2.err 7 (by decide) (by decide)
  have g9 : w2.cell? ⟨5, 0, none⟩ = some (.iface 245 (.pointer (some (sp 9)))) := hE2.err 9 (by decide) (by decide)
  have g10 : w2.cell? ⟨6, 0, none⟩ = some (.iface 245 (.pointer (some (sp 10)))) := hE2.err 10 (by decide) (by decide)
  have HV := hide hv2
  have HF := hide hf
  have HB := hide hB2
  have HI := hide hinj
  clear hv2 hf hB2 hinj hcall hal hf2 hE2 hE hB h
  rcases (by omega : k = 2 ∨ k = 3 ∨ k = 4 ∨ k = 5 ∨ k = 6 ∨ k = 7 ∨ k = 8) with rfl | rfl | rfl | rfl | rfl | rfl | rfl
  all_goals
    go_wp2_with (go_at_call 54; refine (Is_any sp _ _ _ _ n0 (by decide) (by decide) HI.out HB.out HV.out).mono ?_; rintro e w' ⟨rfl, rfl⟩)
    go_ret
    exact ⟨rfl, HF.out⟩
end Go.Proofs.YtjjjlilflbddoaaDoor
