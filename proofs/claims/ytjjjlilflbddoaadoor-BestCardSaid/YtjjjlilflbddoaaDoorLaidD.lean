import Derived.Test.YtjjjlilflbddoaaDoorRtH
import Derived.Test.YtjjjlilflbddoaaDoorRows
import Derived.Lib.LaidTab
import Derived.LaidLaws
import Derived.LaidHandle
import Derived.ProofKit
namespace Go.Proofs.YtjjjlilflbddoaaDoor
open Go.ChangeShapes Go.WideShapes Go.ChangeAt Go.RowKit

theorem dgn0 : Tryd.prog.globalNamed "gunz/gunzref.order" = some 11 := by kernel_rfl
theorem dgt0 : (Tryd.prog.globals[11]?).map (·.type) = some 151 := by kernel_rfl
theorem dgn1 : Tryd.prog.globalNamed "gunz/packed.tellingOrder" = some 8 := by kernel_rfl
theorem dgt1 : (Tryd.prog.globals[8]?).map (·.type) = some 151 := by kernel_rfl
theorem dgn2 : Tryd.prog.globalNamed "gunz/packed.lengthFrom" = some 9 := by kernel_rfl
theorem dgt2 : (Tryd.prog.globals[9]?).map (·.type) = some 161 := by kernel_rfl
theorem dgn3 : Tryd.prog.globalNamed "gunz/packed.distanceFrom" = some 10 := by kernel_rfl
theorem dgt3 : (Tryd.prog.globals[10]?).map (·.type) = some 162 := by kernel_rfl
def dints (l : List Nat) : List Int := l.map fun n : Nat => (n : Int)
theorem dints_at (l : List Nat) (i : Nat) (h : i < l.length) : (dints l).getD i 0 = ((l.getD i 0 : Nat) : Int) := by
  simp [dints, List.getD, h]
theorem dtell_tab : (Rows.laid_gunz_packed_tellingOrder : DataW Unit) = Lib.tabData .i64 (dints Gz.order) := by kernel_rfl
theorem dord_tab : (Rows.laid_gunz_gunzref_order : DataW Unit) = Lib.tabData .i64 (dints Gz.order) := by kernel_rfl
theorem dlen_tab : (Rows.laid_gunz_packed_lengthFrom : DataW Unit) = Lib.tabData .i64 (dints Gz.lenFrom) := by kernel_rfl
theorem dfar_tab : (Rows.laid_gunz_packed_distanceFrom : DataW Unit) = Lib.tabData .i64 (dints Gz.distFrom) := by kernel_rfl
def plainD : List (String × DataW Unit) := [("gunz/gunzref.order", Rows.laid_gunz_gunzref_order), ("gunz/packed.tellingOrder", Rows.laid_gunz_packed_tellingOrder), ("gunz/packed.lengthFrom", Rows.laid_gunz_packed_lengthFrom), ("gunz/packed.distanceFrom", Rows.laid_gunz_packed_distanceFrom)]

set_option maxRecDepth 100000 in
set_option maxHeartbeats 8000000 in
theorem envD_of {W : World} (h : laidMet Tryd.prog plainD W) : PkEnv W ∧ OrdAt W ∧ 11 < W.heap.size := by
  obtain ⟨ps, ⟨g0, t0, cs0, f0, p0, q0, hg0, ht0, hv0, hd0, ⟨g1, t1, cs1, f1, p1, q1, hg1, ht1, hv1, hd1, ⟨g2, t2, cs2, f2, p2, q2, hg2, ht2, hv2, hd2, ⟨g3, t3, cs3, f3, p3, q3, hg3, ht3, hv3, hd3, hq3, e3⟩, e2⟩, e1⟩, e0⟩, hnd, hrows⟩ := h
  obtain rfl := Option.some.inj (dgn0.symm.trans hg0)
  obtain rfl := Option.some.inj (dgt0.symm.trans ht0)
  obtain rfl := Option.some.inj (dgn1.symm.trans hg1)
  obtain rfl := Option.some.inj (dgt1.symm.trans ht1)
  obtain rfl := Option.some.inj (dgn2.symm.trans hg2)
  obtain rfl := Option.some.inj (dgt2.symm.trans ht2)
  obtain rfl := Option.some.inj (dgn3.symm.trans hg3)
  obtain rfl := Option.some.inj (dgt3.symm.trans ht3)
  have tO := Lib.cells_of_tab Tryd.underlying151 Tryd.underlying3 (by kernel_rfl) (by kernel_rfl) (dord_tab ▸ hd0)
  have tT := Lib.cells_of_tab Tryd.underlying151 Tryd.underlying3 (by kernel_rfl) (by kernel_rfl) (dtell_tab ▸ hd1)
  have tL := Lib.cells_of_tab Tryd.underlying161 Tryd.underlying3 (by kernel_rfl) (by kernel_rfl) (dlen_tab ▸ hd2)
  have tF := Lib.cells_of_tab Tryd.underlying162 Tryd.underlying3 (by kernel_rfl) (by kernel_rfl) (dfar_tab ▸ hd3)
  have T0 : Lib.TabIs Tryd.prog W "gunz/gunzref.order" .i64 (dints Gz.order) := by unfold Lib.TabIs; rw [hv0, ← tO]
  have T1 : Lib.TabIs Tryd.prog W "gunz/packed.tellingOrder" .i64 (dints Gz.order) := by unfold Lib.TabIs; rw [hv1, ← tT]
  have T2 : Lib.TabIs Tryd.prog W "gunz/packed.lengthFrom" .i64 (dints Gz.lenFrom) := by unfold Lib.TabIs; rw [hv2, ← tL]
  have T3 : Lib.TabIs Tryd.prog W "gunz/packed.distanceFrom" .i64 (dints Gz.distFrom) := by unfold Lib.TabIs; rw [hv3, ← tF]
  have hG : 11 < W.heap.size := by
    rcases Nat.lt_or_ge 11 W.heap.size with h | h
    · exact h
    · simp [World.var?, dgn0, Array.getElem?_eq_none h] at hv0
  have hsz : 11 ≤ W.heap.size := by
    rcases Nat.lt_or_ge 10 W.heap.size with h | h
    · omega
    · simp [World.var?, dgn3, Array.getElem?_eq_none h] at hv3
  refine ⟨⟨hsz, ?_, ?_, ?_⟩, ?_, hG⟩
  · intro i hi
    rw [T1.cell dgn1 i (by simpa [dints, Gz.order] using hi), dints_at _ _ (by simpa [Gz.order] using hi)]
  · intro i hi
    rw [T2.cell dgn2 i (by simpa [dints, Gz.lenFrom] using hi), dints_at _ _ (by simpa [Gz.lenFrom] using hi)]
  · intro i hi
    rw [T3.cell dgn3 i (by simpa [dints, Gz.distFrom] using hi), dints_at _ _ (by simpa [Gz.distFrom] using hi)]
  · intro i hi
    rw [T0.cell dgn0 i (by simpa [dints, Gz.order] using hi), dints_at _ _ (by simpa [Gz.order] using hi)]
end Go.Proofs.YtjjjlilflbddoaaDoor
