import Derived.Test.YtjjjlilflbddoaaGreatDoorBkB
import Derived.Test.YtjjjlilflbddoaaGreatDoorRows
import Derived.Lib.LaidTab
import Derived.LaidLaws
import Derived.LaidHandle
import Derived.ProofKit
import Derived.LaidMore
import Derived.Carry
import Derived.ChangeMaps5
import Derived.Stop.Joined
import Derived.Test.YtjjjlilflbddoaaGreatDoorTie
import Derived.Test.YtjjjlilflbddoaaGreatDoorCards
import Derived.SevenTiedAt
namespace Go.Proofs.YtjjjlilflbddoaaGreatDoor
open Go.ChangeShapes Go.WideShapes Go.ChangeAt Go.RowKit

theorem gn0 : Tryz.prog.globalNamed "math/bits.deBruijn32tab" = some 14 := by kernel_rfl
theorem gt0 : (Tryz.prog.globals[14]?).map (·.type) = some 246 := by kernel_rfl
theorem gn1 : Tryz.prog.globalNamed "math/bits.deBruijn64tab" = some 15 := by kernel_rfl
theorem gt1 : (Tryz.prog.globals[15]?).map (·.type) = some 247 := by kernel_rfl
theorem gn2 : Tryz.prog.globalNamed "internal/strconv.uint64pow10" = some 13 := by kernel_rfl
theorem gt2 : (Tryz.prog.globals[13]?).map (·.type) = some 236 := by kernel_rfl
theorem gn3 : Tryz.prog.globalNamed "gunz/packed.tellingOrder" = some 8 := by kernel_rfl
theorem gt3 : (Tryz.prog.globals[8]?).map (·.type) = some 146 := by kernel_rfl
theorem gn4 : Tryz.prog.globalNamed "gunz/packed.lengthFrom" = some 9 := by kernel_rfl
theorem gt4 : (Tryz.prog.globals[9]?).map (·.type) = some 155 := by kernel_rfl
theorem gn5 : Tryz.prog.globalNamed "gunz/packed.distanceFrom" = some 10 := by kernel_rfl
theorem gt5 : (Tryz.prog.globals[10]?).map (·.type) = some 156 := by kernel_rfl
theorem gn6 : Tryz.prog.globalNamed "gunz/packed.ErrBlock" = some 0 := by kernel_rfl
theorem gt6 : (Tryz.prog.globals[0]?).map (·.type) = some 55 := by kernel_rfl
theorem gn7 : Tryz.prog.globalNamed "gunz/packed.ErrStored" = some 1 := by kernel_rfl
theorem gt7 : (Tryz.prog.globals[1]?).map (·.type) = some 55 := by kernel_rfl
theorem gn8 : Tryz.prog.globalNamed "gunz/packed.ErrCode" = some 2 := by kernel_rfl
theorem gt8 : (Tryz.prog.globals[2]?).map (·.type) = some 55 := by kernel_rfl
theorem gn9 : Tryz.prog.globalNamed "gunz/packed.ErrSymbol" = some 3 := by kernel_rfl
theorem gt9 : (Tryz.prog.globals[3]?).map (·.type) = some 55 := by kernel_rfl
theorem gn10 : Tryz.prog.globalNamed "gunz/packed.ErrFar" = some 4 := by kernel_rfl
theorem gt10 : (Tryz.prog.globals[4]?).map (·.type) = some 55 := by kernel_rfl
theorem gn11 : Tryz.prog.globalNamed "gunz/packed.ErrLimit" = some 12 := by kernel_rfl
theorem gt11 : (Tryz.prog.globals[12]?).map (·.type) = some 55 := by kernel_rfl
theorem gn12 : Tryz.prog.globalNamed "gunz/gziptext.ErrHead" = some 5 := by kernel_rfl
theorem gt12 : (Tryz.prog.globals[5]?).map (·.type) = some 55 := by kernel_rfl
theorem gn13 : Tryz.prog.globalNamed "gunz/gziptext.ErrSum" = some 6 := by kernel_rfl
theorem gt13 : (Tryz.prog.globals[6]?).map (·.type) = some 55 := by kernel_rfl
theorem cells152 : Tryz.prog.cellsOf 268 = 1 := by kernel_rfl
theorem cells9 : Tryz.prog.cellsOf 9 = 1 := by kernel_rfl
theorem star : "*" ++ "errors.errorString" = "*errors.errorString" := by decide
theorem row133 (u : TypeId) (h : Tryz.prog.typeName? 3 u = some "*errors.errorString") : u = 248 :=
  typeName_ptr_named (nm := "errors.errorString") (by rw [star]; kernel_rfl) (by kernel_rfl) (by decide) u (by rw [star]; exact h)
theorem get5 : Tryz.prog.globalNamed "errors.errorType" = some 7 := by kernel_rfl
theorem rt69 : (Tryz.prog.cutTypes.find? (·.1 == "internal/reflectlite.rtype")).map (·.2) = some 159 := by kernel_rfl
theorem oneRow33 : ((List.range 280).filter fun t => Tryz.prog.rowNamed t [101, 114, 114, 111, 114]) = [55] := by kernel_rfl
theorem size163 : Tryz.prog.types.size = 280 := by kernel_rfl

def ints (l : List Nat) : List Int := l.map fun n : Nat => (n : Int)
theorem ints_at (l : List Nat) (i : Nat) (h : i < l.length) : (ints l).getD i 0 = ((l.getD i 0 : Nat) : Int) := by
  simp [ints, List.getD, h]
theorem tell_tab : (Rows.laid_gunz_packed_tellingOrder : DataW Unit) = Lib.tabData .i64 (ints Gz.order) := by kernel_rfl
theorem len_tab : (Rows.laid_gunz_packed_lengthFrom : DataW Unit) = Lib.tabData .i64 (ints Gz.lenFrom) := by kernel_rfl
theorem far_tab : (Rows.laid_gunz_packed_distanceFrom : DataW Unit) = Lib.tabData .i64 (ints Gz.distFrom) := by kernel_rfl
theorem pow_tab : (Rows.laid_internal_strconv_uint64pow10 : DataW Unit) = Lib.tabData .u64 Lib.pow10Tab := by kernel_rfl

/-- Where the eight errors lie. -/
def sps (a0 a1 a2 a3 a4 a5 a6 a7 : Addr) : Nat → Addr
  | 3 => a0
  | 4 => a1
  | 5 => a2
  | 6 => a3
  | 7 => a4
  | 8 => a5
  | 9 => a6
  | _ => a7

/-- What is listed of the variables, but for the handle. -/
def plain : List (String × DataW Unit) := [("math/bits.deBruijn32tab", Rows.laid_math_bits_deBruijn32tab), ("math/bits.deBruijn64tab", Rows.laid_math_bits_deBruijn64tab), ("internal/strconv.uint64pow10", Rows.laid_internal_strconv_uint64pow10), ("gunz/packed.tellingOrder", Rows.laid_gunz_packed_tellingOrder), ("gunz/packed.lengthFrom", Rows.laid_gunz_packed_lengthFrom), ("gunz/packed.distanceFrom", Rows.laid_gunz_packed_distanceFrom), ("gunz/packed.ErrBlock", Rows.laid_gunz_packed_ErrBlock), ("gunz/packed.ErrStored", Rows.laid_gunz_packed_ErrStored), ("gunz/packed.ErrCode", Rows.laid_gunz_packed_ErrCode), ("gunz/packed.ErrSymbol", Rows.laid_gunz_packed_ErrSymbol), ("gunz/packed.ErrFar", Rows.laid_gunz_packed_ErrFar), ("gunz/packed.ErrLimit", Rows.laid_gunz_packed_ErrLimit), ("gunz/gziptext.ErrHead", Rows.laid_gunz_gziptext_ErrHead), ("gunz/gziptext.ErrSum", Rows.laid_gunz_gziptext_ErrSum)]

theorem typ_of {W : World} (h : handlesMet Tryz.prog [("errors.errorType", Rows.laid_errors_errorType)] W) : W.cell? ⟨7, 0, none⟩ = some (.iface 159 (.agg #[.pointer (some ⟨16, 55, none⟩)])) := by
  obtain ⟨name, u, ty, e1, e2, e3, e4, e5⟩ := h _ (List.mem_singleton.2 rfl)
  have en : name = [101, 114, 114, 111, 114] := (Option.some.inj e1).symm
  subst en
  obtain rfl := Option.some.inj (rt69.symm.trans e2)
  have hm : ty ∈ (List.range 280).filter fun t => Tryz.prog.rowNamed t [101, 114, 114, 111, 114] := List.mem_filter.2 ⟨List.mem_range.2 (by rw [← size163]; exact e3), e4⟩
  rw [oneRow33] at hm
  obtain rfl := List.mem_singleton.1 hm
  have hh : typeHandle Tryz.prog 55 = .pointer (some ⟨16, 55, none⟩) := by kernel_rfl
  rw [hh] at e5
  simpa using World.var?_cell get5 e5 0


set_option maxRecDepth 100000 in
set_option maxHeartbeats 8000000 in
theorem env_of {W : World} (h : laidMetH Tryz.prog Rows.backRow.laid W) : ∃ sp, Env sp W ∧ Blk sp W ∧ Pow W := by
  have h' : laidMet Tryz.prog plain W ∧ handlesMet Tryz.prog [("errors.errorType", Rows.laid_errors_errorType)] W := h
  obtain ⟨hl, hh⟩ := h'
  have htyp := typ_of hh
  clear h hh
  obtain ⟨ps, ⟨g0, t0, cs0, f0, p0, q0, hg0, ht0, hv0, hd0, ⟨g1, t1, cs1, f1, p1, q1, hg1, ht1, hv1, hd1, ⟨g2, t2, cs2, f2, p2, q2, hg2, ht2, hv2, hd2, ⟨g3, t3, cs3, f3, p3, q3, hg3, ht3, hv3, hd3, ⟨g4, t4, cs4, f4, p4, q4, hg4, ht4, hv4, hd4, ⟨g5, t5, cs5, f5, p5, q5, hg5, ht5, hv5, hd5, ⟨g6, t6, cs6, f6, p6, q6, hg6, ht6, hv6, hd6, ⟨g7, t7, cs7, f7, p7, q7, hg7, ht7, hv7, hd7, ⟨g8, t8, cs8, f8, p8, q8, hg8, ht8, hv8, hd8, ⟨g9, t9, cs9, f9, p9, q9, hg9, ht9, hv9, hd9, ⟨g10, t10, cs10, f10, p10, q10, hg10, ht10, hv10, hd10, ⟨g11, t11, cs11, f11, p11, q11, hg11, ht11, hv11, hd11, ⟨g12, t12, cs12, f12, p12, q12, hg12, ht12, hv12, hd12, ⟨g13, t13, cs13, f13, p13, q13, hg13, ht13, hv13, hd13, hq13, e13⟩, e12⟩, e11⟩, e10⟩, e9⟩, e8⟩, e7⟩, e6⟩, e5⟩, e4⟩, e3⟩, e2⟩, e1⟩, e0⟩, hnd, hrows⟩ := hl
  obtain rfl := Option.some.inj (gn0.symm.trans hg0)
  obtain rfl := Option.some.inj (gt0.symm.trans ht0)
  obtain rfl := Option.some.inj (gn1.symm.trans hg1)
  obtain rfl := Option.some.inj (gt1.symm.trans ht1)
  obtain rfl := Option.some.inj (gn2.symm.trans hg2)
  obtain rfl := Option.some.inj (gt2.symm.trans ht2)
  obtain rfl := Option.some.inj (gn3.symm.trans hg3)
  obtain rfl := Option.some.inj (gt3.symm.trans ht3)
  obtain rfl := Option.some.inj (gn4.symm.trans hg4)
  obtain rfl := Option.some.inj (gt4.symm.trans ht4)
  obtain rfl := Option.some.inj (gn5.symm.trans hg5)
  obtain rfl := Option.some.inj (gt5.symm.trans ht5)
  obtain rfl := Option.some.inj (gn6.symm.trans hg6)
  obtain rfl := Option.some.inj (gt6.symm.trans ht6)
  obtain rfl := Option.some.inj (gn7.symm.trans hg7)
  obtain rfl := Option.some.inj (gt7.symm.trans ht7)
  obtain rfl := Option.some.inj (gn8.symm.trans hg8)
  obtain rfl := Option.some.inj (gt8.symm.trans ht8)
  obtain rfl := Option.some.inj (gn9.symm.trans hg9)
  obtain rfl := Option.some.inj (gt9.symm.trans ht9)
  obtain rfl := Option.some.inj (gn10.symm.trans hg10)
  obtain rfl := Option.some.inj (gt10.symm.trans ht10)
  obtain rfl := Option.some.inj (gn11.symm.trans hg11)
  obtain rfl := Option.some.inj (gt11.symm.trans ht11)
  obtain rfl := Option.some.inj (gn12.symm.trans hg12)
  obtain rfl := Option.some.inj (gt12.symm.trans ht12)
  obtain rfl := Option.some.inj (gn13.symm.trans hg13)
  obtain rfl := Option.some.inj (gt13.symm.trans ht13)
  have hq : q13 = [] := hq13
  subst hq
  subst e13
  subst e12
  subst e11
  subst e10
  subst e9
  subst e8
  subst e7
  subst e6
  subst e5
  subst e4
  subst e3
  subst e2
  subst e1
  subst e0
  obtain ⟨l6⟩ := cs6
  have ok6 : ∀ u v, l6 = [.iface u v] → Value.okWide Tryz.prog W .any 0 u v := fun u v e => by
    subst e
    exact (hrows 0 0 (by simp [MemPlace.row])).2 u v (by simpa using World.var?_cell hg6 hv6 0)
  obtain ⟨l7⟩ := cs7
  have ok7 : ∀ u v, l7 = [.iface u v] → Value.okWide Tryz.prog W .any 0 u v := fun u v e => by
    subst e
    exact (hrows 1 0 (by simp [MemPlace.row])).2 u v (by simpa using World.var?_cell hg7 hv7 0)
  obtain ⟨l8⟩ := cs8
  have ok8 : ∀ u v, l8 = [.iface u v] → Value.okWide Tryz.prog W .any 0 u v := fun u v e => by
    subst e
    exact (hrows 2 0 (by simp [MemPlace.row])).2 u v (by simpa using World.var?_cell hg8 hv8 0)
  obtain ⟨l9⟩ := cs9
  have ok9 : ∀ u v, l9 = [.iface u v] → Value.okWide Tryz.prog W .any 0 u v := fun u v e => by
    subst e
    exact (hrows 3 0 (by simp [MemPlace.row])).2 u v (by simpa using World.var?_cell hg9 hv9 0)
  obtain ⟨l10⟩ := cs10
  have ok10 : ∀ u v, l10 = [.iface u v] → Value.okWide Tryz.prog W .any 0 u v := fun u v e => by
    subst e
    exact (hrows 4 0 (by simp [MemPlace.row])).2 u v (by simpa using World.var?_cell hg10 hv10 0)
  obtain ⟨l11⟩ := cs11
  have ok11 : ∀ u v, l11 = [.iface u v] → Value.okWide Tryz.prog W .any 0 u v := fun u v e => by
    subst e
    exact (hrows 12 0 (by simp [MemPlace.row])).2 u v (by simpa using World.var?_cell hg11 hv11 0)
  obtain ⟨l12⟩ := cs12
  have ok12 : ∀ u v, l12 = [.iface u v] → Value.okWide Tryz.prog W .any 0 u v := fun u v e => by
    subst e
    exact (hrows 5 0 (by simp [MemPlace.row])).2 u v (by simpa using World.var?_cell hg12 hv12 0)
  obtain ⟨l13⟩ := cs13
  have ok13 : ∀ u v, l13 = [.iface u v] → Value.okWide Tryz.prog W .any 0 u v := fun u v e => by
    subst e
    exact (hrows 6 0 (by simp [MemPlace.row])).2 u v (by simpa using World.var?_cell hg13 hv13 0)
  obtain ⟨a0, s0, rfl, hc0, hs0, hz0, rfl⟩ := errorString_of_trod Tryz.underlying55 row133 Tryz.underlying248 Tryz.underlying268 rfl rfl Tryz.underlying9 cells152 cells9 hd6 ok6
  obtain ⟨a1, s1, rfl, hc1, hs1, hz1, rfl⟩ := errorString_of_trod Tryz.underlying55 row133 Tryz.underlying248 Tryz.underlying268 rfl rfl Tryz.underlying9 cells152 cells9 hd7 ok7
  obtain ⟨a2, s2, rfl, hc2, hs2, hz2, rfl⟩ := errorString_of_trod Tryz.underlying55 row133 Tryz.underlying248 Tryz.underlying268 rfl rfl Tryz.underlying9 cells152 cells9 hd8 ok8
  obtain ⟨a3, s3, rfl, hc3, hs3, hz3, rfl⟩ := errorString_of_trod Tryz.underlying55 row133 Tryz.underlying248 Tryz.underlying268 rfl rfl Tryz.underlying9 cells152 cells9 hd9 ok9
  obtain ⟨a4, s4, rfl, hc4, hs4, hz4, rfl⟩ := errorString_of_trod Tryz.underlying55 row133 Tryz.underlying248 Tryz.underlying268 rfl rfl Tryz.underlying9 cells152 cells9 hd10 ok10
  obtain ⟨a5, s5, rfl, hc5, hs5, hz5, rfl⟩ := errorString_of_trod Tryz.underlying55 row133 Tryz.underlying248 Tryz.underlying268 rfl rfl Tryz.underlying9 cells152 cells9 hd11 ok11
  obtain ⟨a6, s6, rfl, hc6, hs6, hz6, rfl⟩ := errorString_of_trod Tryz.underlying55 row133 Tryz.underlying248 Tryz.underlying268 rfl rfl Tryz.underlying9 cells152 cells9 hd12 ok12
  obtain ⟨a7, s7, rfl, hc7, hs7, hz7, rfl⟩ := errorString_of_trod Tryz.underlying55 row133 Tryz.underlying248 Tryz.underlying268 rfl rfl Tryz.underlying9 cells152 cells9 hd13 ok13
  obtain ⟨c0, y0, hb0⟩ := (hrows a0.block a0.off (by simp [MemPlace.row])).1
  have v0 : W.cell? ⟨0, 0, none⟩ = some (.iface 248 (.pointer (some a0))) := by simpa using World.var?_cell hg6 hv6 0
  obtain ⟨c1, y1, hb1⟩ := (hrows a1.block a1.off (by simp [MemPlace.row])).1
  have v1 : W.cell? ⟨1, 0, none⟩ = some (.iface 248 (.pointer (some a1))) := by simpa using World.var?_cell hg7 hv7 0
  obtain ⟨c2, y2, hb2⟩ := (hrows a2.block a2.off (by simp [MemPlace.row])).1
  have v2 : W.cell? ⟨2, 0, none⟩ = some (.iface 248 (.pointer (some a2))) := by simpa using World.var?_cell hg8 hv8 0
  obtain ⟨c3, y3, hb3⟩ := (hrows a3.block a3.off (by simp [MemPlace.row])).1
  have v3 : W.cell? ⟨3, 0, none⟩ = some (.iface 248 (.pointer (some a3))) := by simpa using World.var?_cell hg9 hv9 0
  obtain ⟨c4, y4, hb4⟩ := (hrows a4.block a4.off (by simp [MemPlace.row])).1
  have v4 : W.cell? ⟨4, 0, none⟩ = some (.iface 248 (.pointer (some a4))) := by simpa using World.var?_cell hg10 hv10 0
  obtain ⟨c5, y5, hb5⟩ := (hrows a5.block a5.off (by simp [MemPlace.row])).1
  have v5 : W.cell? ⟨12, 0, none⟩ = some (.iface 248 (.pointer (some a5))) := by simpa using World.var?_cell hg11 hv11 0
  obtain ⟨c6, y6, hb6⟩ := (hrows a6.block a6.off (by simp [MemPlace.row])).1
  have v6 : W.cell? ⟨5, 0, none⟩ = some (.iface 248 (.pointer (some a6))) := by simpa using World.var?_cell hg12 hv12 0
  obtain ⟨c7, y7, hb7⟩ := (hrows a7.block a7.off (by simp [MemPlace.row])).1
  have v7 : W.cell? ⟨6, 0, none⟩ = some (.iface 248 (.pointer (some a7))) := by simpa using World.var?_cell hg13 hv13 0
  have d0 := (List.nodup_append.1 hnd).2.1
  have d1 := (List.nodup_append.1 d0).2.1
  have d2 := (List.nodup_append.1 d1).2.1
  have d3 := (List.nodup_append.1 d2).2.1
  have d4 := (List.nodup_append.1 d3).2.1
  have d5 := (List.nodup_append.1 d4).2.1
  have x0 := (List.nodup_append.1 d5).2.2
  have r0 := (List.nodup_append.1 d5).2.1
  have x1 := (List.nodup_append.1 r0).2.2
  have r1 := (List.nodup_append.1 r0).2.1
  have x2 := (List.nodup_append.1 r1).2.2
  have r2 := (List.nodup_append.1 r1).2.1
  have x3 := (List.nodup_append.1 r2).2.2
  have r3 := (List.nodup_append.1 r2).2.1
  have x4 := (List.nodup_append.1 r3).2.2
  have r4 := (List.nodup_append.1 r3).2.1
  have x5 := (List.nodup_append.1 r4).2.2
  have r5 := (List.nodup_append.1 r4).2.1
  have x6 := (List.nodup_append.1 r5).2.2
  have n01 : a0 ≠ a1 := fun e => x0 (.cell a0.block a0.off) (by simp [MemPlace.row]) (.cell a1.block a1.off) (by simp [MemPlace.row]) (by rw [e])
  have n02 : a0 ≠ a2 := fun e => x0 (.cell a0.block a0.off) (by simp [MemPlace.row]) (.cell a2.block a2.off) (by simp [MemPlace.row]) (by rw [e])
  have n03 : a0 ≠ a3 := fun e => x0 (.cell a0.block a0.off) (by simp [MemPlace.row]) (.cell a3.block a3.off) (by simp [MemPlace.row]) (by rw [e])
  have n04 : a0 ≠ a4 := fun e => x0 (.cell a0.block a0.off) (by simp [MemPlace.row]) (.cell a4.block a4.off) (by simp [MemPlace.row]) (by rw [e])
  have n05 : a0 ≠ a5 := fun e => x0 (.cell a0.block a0.off) (by simp [MemPlace.row]) (.cell a5.block a5.off) (by simp [MemPlace.row]) (by rw [e])
  have n06 : a0 ≠ a6 := fun e => x0 (.cell a0.block a0.off) (by simp [MemPlace.row]) (.cell a6.block a6.off) (by simp [MemPlace.row]) (by rw [e])
  have n07 : a0 ≠ a7 := fun e => x0 (.cell a0.block a0.off) (by simp [MemPlace.row]) (.cell a7.block a7.off) (by simp [MemPlace.row]) (by rw [e])
  have n12 : a1 ≠ a2 := fun e => x1 (.cell a1.block a1.off) (by simp [MemPlace.row]) (.cell a2.block a2.off) (by simp [MemPlace.row]) (by rw [e])
  have n13 : a1 ≠ a3 := fun e => x1 (.cell a1.block a1.off) (by simp [MemPlace.row]) (.cell a3.block a3.off) (by simp [MemPlace.row]) (by rw [e])
  have n14 : a1 ≠ a4 := fun e => x1 (.cell a1.block a1.off) (by simp [MemPlace.row]) (.cell a4.block a4.off) (by simp [MemPlace.row]) (by rw [e])
  have n15 : a1 ≠ a5 := fun e => x1 (.cell a1.block a1.off) (by simp [MemPlace.row]) (.cell a5.block a5.off) (by simp [MemPlace.row]) (by rw [e])
  have n16 : a1 ≠ a6 := fun e => x1 (.cell a1.block a1.off) (by simp [MemPlace.row]) (.cell a6.block a6.off) (by simp [MemPlace.row]) (by rw [e])
  have n17 : a1 ≠ a7 := fun e => x1 (.cell a1.block a1.off) (by simp [MemPlace.row]) (.cell a7.block a7.off) (by simp [MemPlace.row]) (by rw [e])
  have n23 : a2 ≠ a3 := fun e => x2 (.cell a2.block a2.off) (by simp [MemPlace.row]) (.cell a3.block a3.off) (by simp [MemPlace.row]) (by rw [e])
  have n24 : a2 ≠ a4 := fun e => x2 (.cell a2.block a2.off) (by simp [MemPlace.row]) (.cell a4.block a4.off) (by simp [MemPlace.row]) (by rw [e])
  have n25 : a2 ≠ a5 := fun e => x2 (.cell a2.block a2.off) (by simp [MemPlace.row]) (.cell a5.block a5.off) (by simp [MemPlace.row]) (by rw [e])
  have n26 : a2 ≠ a6 := fun e => x2 (.cell a2.block a2.off) (by simp [MemPlace.row]) (.cell a6.block a6.off) (by simp [MemPlace.row]) (by rw [e])
  have n27 : a2 ≠ a7 := fun e => x2 (.cell a2.block a2.off) (by simp [MemPlace.row]) (.cell a7.block a7.off) (by simp [MemPlace.row]) (by rw [e])
  have n34 : a3 ≠ a4 := fun e => x3 (.cell a3.block a3.off) (by simp [MemPlace.row]) (.cell a4.block a4.off) (by simp [MemPlace.row]) (by rw [e])
  have n35 : a3 ≠ a5 := fun e => x3 (.cell a3.block a3.off) (by simp [MemPlace.row]) (.cell a5.block a5.off) (by simp [MemPlace.row]) (by rw [e])
  have n36 : a3 ≠ a6 := fun e => x3 (.cell a3.block a3.off) (by simp [MemPlace.row]) (.cell a6.block a6.off) (by simp [MemPlace.row]) (by rw [e])
  have n37 : a3 ≠ a7 := fun e => x3 (.cell a3.block a3.off) (by simp [MemPlace.row]) (.cell a7.block a7.off) (by simp [MemPlace.row]) (by rw [e])
  have n45 : a4 ≠ a5 := fun e => x4 (.cell a4.block a4.off) (by simp [MemPlace.row]) (.cell a5.block a5.off) (by simp [MemPlace.row]) (by rw [e])
  have n46 : a4 ≠ a6 := fun e => x4 (.cell a4.block a4.off) (by simp [MemPlace.row]) (.cell a6.block a6.off) (by simp [MemPlace.row]) (by rw [e])
  have n47 : a4 ≠ a7 := fun e => x4 (.cell a4.block a4.off) (by simp [MemPlace.row]) (.cell a7.block a7.off) (by simp [MemPlace.row]) (by rw [e])
  have n56 : a5 ≠ a6 := fun e => x5 (.cell a5.block a5.off) (by simp [MemPlace.row]) (.cell a6.block a6.off) (by simp [MemPlace.row]) (by rw [e])
  have n57 : a5 ≠ a7 := fun e => x5 (.cell a5.block a5.off) (by simp [MemPlace.row]) (.cell a7.block a7.off) (by simp [MemPlace.row]) (by rw [e])
  have n67 : a6 ≠ a7 := fun e => x6 (.cell a6.block a6.off) (by simp [MemPlace.row]) (.cell a7.block a7.off) (by simp [MemPlace.row]) (by rw [e])
  have tP := Lib.cells_of_tab Tryz.underlying236 Tryz.underlying210 (by kernel_rfl) (by kernel_rfl) (pow_tab ▸ hd2)
  have tT := Lib.cells_of_tab Tryz.underlying146 Tryz.underlying3 (by kernel_rfl) (by kernel_rfl) (tell_tab ▸ hd3)
  have tL := Lib.cells_of_tab Tryz.underlying155 Tryz.underlying3 (by kernel_rfl) (by kernel_rfl) (len_tab ▸ hd4)
  have tF := Lib.cells_of_tab Tryz.underlying156 Tryz.underlying3 (by kernel_rfl) (by kernel_rfl) (far_tab ▸ hd5)
  have T7 : Lib.TabIs Tryz.prog W "gunz/packed.tellingOrder" .i64 (ints Gz.order) := by unfold Lib.TabIs; rw [hv3, ← tT]
  have T9 : Lib.TabIs Tryz.prog W "gunz/packed.lengthFrom" .i64 (ints Gz.lenFrom) := by unfold Lib.TabIs; rw [hv4, ← tL]
  have T10 : Lib.TabIs Tryz.prog W "gunz/packed.distanceFrom" .i64 (ints Gz.distFrom) := by unfold Lib.TabIs; rw [hv5, ← tF]
  have hsz : 16 ≤ W.heap.size := by
    rcases Nat.lt_or_ge 15 W.heap.size with h | h
    · omega
    · simp [World.var?, gn1, Array.getElem?_eq_none h] at hv1
  refine ⟨sps a0 a1 a2 a3 a4 a5 a6 a7, ⟨hsz, ?_, ?_, ?_, ?_, ?_, htyp⟩, ?_, ?_⟩
  · intro k h3 h8
    rcases (by omega : k = 3 ∨ k = 4 ∨ k = 5 ∨ k = 6 ∨ k = 7 ∨ k = 8 ∨ k = 9 ∨ k = 10) with rfl | rfl | rfl | rfl | rfl | rfl | rfl | rfl
    · exact v0
    · exact v1
    · exact v2
    · exact v3
    · exact v4
    · exact v5
    · exact v6
    · exact v7
  · intro j k h3 h8 h3' h8' e
    rcases (by omega : j = 3 ∨ j = 4 ∨ j = 5 ∨ j = 6 ∨ j = 7 ∨ j = 8 ∨ j = 9 ∨ j = 10) with rfl | rfl | rfl | rfl | rfl | rfl | rfl | rfl <;>
    rcases (by omega : k = 3 ∨ k = 4 ∨ k = 5 ∨ k = 6 ∨ k = 7 ∨ k = 8 ∨ k = 9 ∨ k = 10) with rfl | rfl | rfl | rfl | rfl | rfl | rfl | rfl <;>
    first | rfl | (exfalso; simp only [sps] at e; first | contradiction | exact absurd e.symm (by assumption))
  · intro i hi
    rw [T7.cell gn3 i (by simpa [ints, Gz.order] using hi), ints_at _ _ (by simpa [Gz.order] using hi)]
  · intro i hi
    rw [T9.cell gn4 i (by simpa [ints, Gz.lenFrom] using hi), ints_at _ _ (by simpa [Gz.lenFrom] using hi)]
  · intro i hi
    rw [T10.cell gn5 i (by simpa [ints, Gz.distFrom] using hi), ints_at _ _ (by simpa [Gz.distFrom] using hi)]
  · intro k h3 h8
    rcases (by omega : k = 3 ∨ k = 4 ∨ k = 5 ∨ k = 6 ∨ k = 7 ∨ k = 8 ∨ k = 9 ∨ k = 10) with rfl | rfl | rfl | rfl | rfl | rfl | rfl | rfl
    · exact ⟨c0, y0, hb0⟩
    · exact ⟨c1, y1, hb1⟩
    · exact ⟨c2, y2, hb2⟩
    · exact ⟨c3, y3, hb3⟩
    · exact ⟨c4, y4, hb4⟩
    · exact ⟨c5, y5, hb5⟩
    · exact ⟨c6, y6, hb6⟩
    · exact ⟨c7, y7, hb7⟩
  · unfold Pow Lib.TabIs
    rw [hv2, ← tP]
end Go.Proofs.YtjjjlilflbddoaaGreatDoor
namespace Go.Proofs.YtjjjlilflbddoaaGreatDoor
open Go.ChangeShapes Go.WideShapes Go.ChangeAt Go.RowKit Go.ChangeMaps

theorem own : ownKnob Tryz.prog.godebug = none := by kernel_rfl

theorem Fr.kept {w w' : World} (h : Fr No w w') (may : MemPlace → Prop) : w.keptBut w' may := by
  refine ⟨h.os, h.output, fun i hi => ?_⟩
  rw [h.block i hi (no_no i)]
  cases w.heap[i]? with
  | none => rfl
  | some o => cases o <;> first | exact ⟨rfl, rfl, rfl, fun _ _ => rfl⟩ | exact .inr ⟨rfl, rfl⟩ | rfl

/-- The door's own heap meets the condition. -/
theorem door_met (os : Os) (args : Array Value) : laidMetH Tryz.prog Rows.backRow.laid ((World.doorLaid Tryz.prog 400 os).forCall (fun _ _ => 0) ⟨#[], args, []⟩).memory :=
  laidMetH_of_parts3 (fuel := 8) (laidMet_of_run' 8 (by kernel_rfl) (by kernel_rfl)) (by kernel_rfl) (by kernel_rfl)

set_option maxRecDepth 100000 in
theorem back_lifted (os : Os) (started : os.Started) (H : Type) (enc : TypeId × Value → H) :
    ReturnsInHanded {} Tryz.checked os 5 .any (fun w args => (Rows.backSpec.pre enc Tryz.prog Tryz.f5 [] false w args ∧ laidMetH Tryz.prog Rows.backRow.laid w) ∧ sizedMet enc Tryz.prog Tryz.f5 (OpenSpec.ofChange Rows.backSpec) false w args)
      (Rows.backSpec.post enc Tryz.prog Tryz.f5 false true false false) := by
  refine returnsInHanded_of_change_and (C := Tryz.checked) (X := fun w _ => laidMetH Tryz.prog Rows.backRow.laid w) (fun _ _ _ hh h => h.of_heap hh) own started (by kernel_rfl) Tryz.func5
    (ChangeSpec.witness_shaped (enc := enc) (C := Tryz.checked) (os := os) (X := fun w _ => laidMetH Tryz.prog Rows.backRow.laid w) false (World.doorLaid Tryz.prog 400 os) #[.string ⟨#[]⟩, .int .i64 0, .int .i64 0] 8 rfl (World.shaped_of_RefB (by kernel_rfl) (by kernel_rfl)) (by kernel_rfl) (by kernel_rfl) (by kernel_rfl) (door_met os _)) ?_
  intro W base args ds gs before hval0 hW _ _ hL _
  have hval : ∀ (j : Nat) t v, Tryz.f5.params[j]? = some t → args[j]? = some v → Value.okWide Tryz.prog W .any base t v := hval0
  have hW' := hW
  obtain ⟨p, q, hA0, hV, rfl, hfz, hnd⟩ := hW
  have hA : DataW.TrodAll enc Tryz.prog W 0 (fun _ => true) true Tryz.f5.params.toList args.toList ds p := hA0
  rw [Tryz.params5] at hA hval
  obtain ⟨v0, v1, v2, d0, d1, d2, p0, p1, p2, rfl, rfl, rfl, h0, h1, h2⟩ := trodAll_three hA
  obtain ⟨rfl, rfl⟩ := trodVars_none hV
  obtain ⟨t, rfl, rfl, rfl, hts⟩ := open_string Tryz.underlying9 (hval 0 9 v0 rfl rfl) h0
  obtain ⟨a, rfl, rfl, rfl, wa⟩ := open_int Tryz.underlying3 (hval 1 3 v1 rfl rfl) h1
  obtain ⟨b, rfl, rfl, rfl, wb⟩ := open_int Tryz.underlying3 (hval 2 3 v2 rfl rfl) h2
  obtain ⟨sp, hE, hB, hP⟩ := env_of hL
  clear hA0 hval0
  simp only [List.append_nil] at hW'
  have e1 : Rows.backSpec.fn H ([.lit (.string t.data.toList), .lit (.int .i64 a), .lit (.int .i64 b)] ++ []) = { results := [.lit (.bool true)], args := [.lit (.string t.data.toList), .lit (.int .i64 a), .lit (.int .i64 b)] } := by simp [Rows.backSpec]
  refine (back_any sp t a b W ⟨by have := hE.size; omega, hE.tell, hE.len, hE.far⟩ hE hB hP).mono fun e W' ⟨he, hw⟩ => ?_
  subst he
  refine ⟨_, rfl, _, _, _, [], [], [], hW', ?_, ?_, ?_, hw.kept _, fun h => by cases h⟩
  · rw [e1]; exact trodAll_mk1 (shut_bool Tryz.underlying4 true)
  · rw [e1]; exact trodAll_mk3 (shut_string Tryz.underlying9 hts) (shut_int Tryz.underlying3 wa) (shut_int Tryz.underlying3 wb)
  · rw [e1]; rfl

theorem back_holds : Rows.BackSaid :=
  OpenClaim.holds_of_wide 5 Tryz.f5 rfl rfl rfl rfl rfl rfl rfl ⟨rfl, rfl, rfl, rfl, rfl⟩ rfl rfl rfl rfl rfl (by kernel_rfl) Tryz.func5 (by kernel_rfl)
    (of_decide_eq_true (by kernel_rfl)) (by unfold Func.isWrapper; first | (rw [if_pos (by decide +kernel)]; kernel_rfl) | (rw [if_neg (by decide +kernel)]; exact ⟨rfl, rfl⟩))
    (fun os started H enc _ => back_lifted os started H enc)
end Go.Proofs.YtjjjlilflbddoaaGreatDoor
namespace Go.Proofs.YtjjjlilflbddoaaGreatDoor
open Go

theorem back_card : Rows.BackCardSaid :=
  Claim7.holds_tied_plain_at .later [] _ _ _ _
    back_holds (fun _ h => by cases h) (by kernel_rfl) (fun _ h => by cases h) back_row_tie rfl ⟨rfl, rfl⟩ (by kernel_rfl) rfl
    (fun f fn hf hfn => by
      obtain rfl : f = 5 := Option.some.inj ((show Tryz.prog.funcNamed "gunz/gunzlaw.Back" = some 5 by kernel_rfl).symm.trans hf) |>.symm
      obtain rfl : fn = Tryz.f5 := (Option.some.inj (Tryz.func5.symm.trans hfn)).symm
      exact ⟨by kernel_rfl, fun j t ht => by
        rw [Tryz.params5] at ht
        have h3 : t = 9 ∨ t = 3 := by
          rcases j with _ | _ | _ | j
          · left; simpa using ht.symm
          · right; simpa using ht.symm
          · right; simpa using ht.symm
          · simp at ht
        rcases h3 with rfl | rfl
        · exact (show Tryz.prog.wantsStandIn 9 = false by kernel_rfl)
        · exact (show Tryz.prog.wantsStandIn 3 = false by kernel_rfl)⟩)
    (by kernel_rfl)
#print axioms back_card
end Go.Proofs.YtjjjlilflbddoaaGreatDoor
