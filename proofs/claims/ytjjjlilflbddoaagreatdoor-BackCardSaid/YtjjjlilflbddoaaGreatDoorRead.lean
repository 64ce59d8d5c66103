import Derived.Test.YtjjjlilflbddoaaGreatDoorQRest
import Derived.Test.YtjjjlilflbddoaaGreatDoorShelf
import Derived.WalkSmall
import Derived.Lib.ItoaLen
import Derived.Laws.BytesString
namespace Go.Proofs.YtjjjlilflbddoaaGreatDoor
open Go.RowKit

def Pow (w : World) : Prop := Lib.TabIs Tryz.prog w "internal/strconv.uint64pow10" .u64 Lib.pow10Tab
theorem g8 : Tryz.prog.globalNamed "internal/strconv.uint64pow10" = some 13 := by kernel_rfl
theorem Pow.fr {S : Nat → Prop} {w w' : World} (h : Pow w) (f : Fr S w w') (h8 : 13 < w.heap.size) (hs : ¬ S 13) : Pow w' := by
  unfold Pow Lib.TabIs World.var? at *
  simp only [g8, Option.bind_some] at h ⊢
  rw [f.block 13 h8 hs]
  exact h
theorem grow_fr (w : World) (os : Array Obj) (k : Nat) : Fr No w (Sort.grow (w.drewN k) os) :=
  ⟨rfl, rfl, rfl, by simp, fun i hi _ => by rw [Sort.heap_grow_old _ _ (by exact hi)]; rfl⟩

theorem wrap_id (z : Int) (h0 : 0 ≤ z) (h1 : z < 2 ^ 62) : IntKind.i64.wrap z = z := by
  have hb : IntKind.i64.bits = 64 := rfl
  have hs : IntKind.i64.signed = true := rfl
  unfold IntKind.wrap
  simp only [hb, hs, Bool.true_and]
  have hm : z % 2 ^ 64 = z := Int.emod_eq_of_lt h0 (by omega)
  rw [hm, if_neg (by simp; omega)]
/-- An error's blocks are none of bytes, nor the reader's. -/
theorem Err.frBytes {sp : Nat → Addr} {w w' : World} {rb : Nat} {s : RS} {v : Value} {k n : Nat} {x : Value} (h : Err sp w v k n) (hr : Rd w rb s) (hx : ∀ g, x.ownBlock = some g → ∃ cur, w.heap[g]? = some (.cells cur 5 (0, 0))) (f : Fr (fun k => k = rb ∨ x.ownBlock = some k) w w') : Err sp w' v k n := by
  have hno : ∀ {p : Nat} {c : Array Value} {t : TypeId}, t ≠ 82 → t ≠ 5 → w.heap[p]? = some (.cells c t (0, 0)) → ¬ (p = rb ∨ x.ownBlock = some p) := fun h1 h2 hh e => by
    rcases e with e | e
    · have h3 := hr.1; rw [← e, hh] at h3; injection h3 with h3; injection h3 with _ h3; exact h1 h3
    · obtain ⟨cur, h3⟩ := hx _ e; rw [hh] at h3; injection h3 with h3; injection h3 with _ h3; exact h2 h3
  induction h using Err.ways with
  | sent k h3 h8 => exact .sent k h3 h8
  | short p n h => exact .short p n (f.at h (hno (by decide) (by decide) h))
  | fault p t v k n h _ ih => exact .fault p t v k n (f.at h (hno (by decide) (by decide) h)) ih
theorem conv_none (w : World) : (convert 61 9 (.slice none 0 0)).run Tryz.prog w = .ok (.string ⟨([] : List UInt8).toArray⟩) w := by
  rw [run_convert_bytes_string w 61 9 5 none 0 0 Tryz.underlying61 Tryz.underlying5 Tryz.underlying9]
  rfl
theorem conv_some (w : World) (g n L C : Nat) (out : List UInt8) (a : Addr) (ha : a = ⟨g, n, none⟩ ∨ out.length ≤ n) (hc : ∀ i, i < out.length → w.cell? ⟨g, i, none⟩ = some (.int .u8 (out.getD i 0).toNat)) (hL : L = out.length - n) :
    (convert 61 9 (.slice (some a) L C)).run Tryz.prog w = .ok (.string ⟨(out.drop n).toArray⟩) w := by
  have hl : (out.drop n).length = L := by rw [hL]; simp
  have := run_convert_bytes_back (P := Tryz.prog) w 61 9 5 a C (out.drop n) Tryz.underlying61 Tryz.underlying5 Tryz.underlying9 (fun j hj => by
    have hj' : n + j < out.length := by simp at hj; omega
    rcases ha with rfl | ha
    · have e4 : (⟨g, n, none⟩ : Addr).add j = ⟨g, n + j, none⟩ := by simp only [Addr.add]; split <;> simp_all
      rw [e4, hc (n + j) hj']
      simp [List.getD, hj']
    · omega)
  rw [hl] at this
  exact this

theorem final_sound (d : List UInt8) (lim : Nat) : ∀ m, m.pos ≤ 8 * d.length → Sound m → Sound (Gz.final d lim m) :=
  Gz.final_ind (fun m e _ h hs => by rw [Gz.final_bad h]; exact hs) (fun m m' hp h ih hs => by rw [Gz.final_ok h hp]; exact ih (step_sound h hs).1)

theorem after_steps {sp : Nat → Addr} {B rb tsb mb db : Nat} {K0 K1 : List Nat} {D : List UInt8} {m : Gz.M} {c : Gz.Tc} {w w3 : World} {s : RS} {e : Ending} (hR : Rst sp B rb tsb mb K1 D m c w s) (hK : ∀ k, k ∈ K0 ↔ (k ∈ K1 ∨ s.dv.ownBlock = some k)) (hpos : m.pos ≤ 8 * D.length)
    (h : RanAll sp B rb db tsb mb K0 D m c w s e w3) : Fr (Own B K1) w w3 ∧ ∃ k o K1' c' s3 q, Gz.step D s.lim (Gz.final D s.lim m) = .error (k, o) ∧ Rst sp B rb tsb mb K1' D { Gz.final D s.lim m with out := o, pos := q } c' w3 s3 ∧ Keeps s s3 ∧ Turned K1 K1' w w3 m (Gz.final D s.lim m) c c' ∧ (∀ g, s3.dv.ownBlock = some g → g ∉ K1 ∧ B ≤ g) ∧
      ((k = 0 ∧ q = (Gz.final D s.lim m).pos ∧ e = .returned .nilIface) ∨ (2 ≤ k ∧ k ≤ 8 ∧ (k = 2 → q = (Gz.final D s.lim m).pos) ∧ ∃ v n, e = .returned v ∧ Err sp w3 v k n)) := by
  obtain ⟨f, k, o, K', c', s3, q, hst, hS3, hk3, ht3, hend⟩ := h
  have hdv := hk3.dv
  have hrow3 : w3.ownsRow B 5 1 s3.dv D.length (D.map bv) := by
    rw [hdv]
    exact ownsRow_fr hR.drow f (fun g hg e => e.2 ((hK g).2 (Or.inr hg)))
  have hg3 : ∀ g, s3.dv.ownBlock = some g → g ∈ K' := fun g hg => ht3.grow.1 g ((hK g).2 (Or.inr (hdv ▸ hg)))
  have hso := final_sound D s.lim m hpos hR.sound
  have hR3 := hS3.rst hrow3 hg3 ⟨hso.pl, hso.tab, hso.le⟩ (by rw [hk3.ps]; exact hR.tot)
  refine ⟨f.up (fun k hk => (hK k).2 (Or.inl hk)), k, o, _, c', s3, q, hst, hR3, hk3, ⟨⟨fun k hk => ?_, fun k hk => ?_⟩, ht3.asks, ht3.few⟩, fun g hg => ?_, hend⟩
  · refine List.mem_filter.2 ⟨ht3.grow.1 k ((hK k).2 (Or.inl hk)), ?_⟩
    rw [hdv]
    exact decide_eq_true (fun e => (hR.dap k e).1 hk)
  · obtain ⟨h1, h2⟩ := List.mem_filter.1 hk
    have h2 : s3.dv.ownBlock ≠ some k := of_decide_eq_true h2
    rcases ht3.grow.2 k h1 with h | h
    · rcases (hK k).1 h with h | h
      · exact Or.inl h
      · rw [hdv] at h2; exact absurd h h2
    · exact Or.inr h
  · rw [hdv] at hg
    exact ⟨(hR.dap g hg).1, (row_block hR.drow hg).1⟩

/-- How Read comes to its end. -/
def RanR (sp : Nat → Addr) (B rb tsb mb : Nat) (K1 : List Nat) (D : List UInt8) (m : Gz.M) (c : Gz.Tc) (w : World) (s : RS) (e : Ending) (w' : World) : Prop :=
  Fr (Own B K1) w w' ∧ ∃ k o q K1' c' s', Gz.step D s.lim (Gz.final D s.lim m) = .error (k, o) ∧ Rst sp B rb tsb mb K1' (D.drop (q / 8)) { Gz.final D s.lim m with out := o, pos := q % 8 } c' w' s' ∧ s'.ps = s.ps + q / 8 ∧ s'.lim = s.lim ∧ Turned K1 K1' w w' m (Gz.final D s.lim m) c c' ∧
    ((k = 0 ∧ q = (Gz.final D s.lim m).pos ∧ e = .returned (.tuple #[.string ⟨(o.drop m.out.length).toArray⟩, .nilIface])) ∨
      (2 ≤ k ∧ k ≤ 8 ∧ (k = 2 → q = (Gz.final D s.lim m).pos) ∧ ∃ v n, e = .returned (.tuple #[.string ⟨(o.drop m.out.length).toArray⟩, v]) ∧ Err sp w' v k n))

set_option maxRecDepth 100000 in
set_option maxHeartbeats 1600000 in
theorem read_any (sp : Nat → Addr) (B rb tsb mb : Nat) (K1 : List Nat) (d : List UInt8) (m : Gz.M) (c : Gz.Tc) (w : World) (s : RS) (t : ByteArray) (p : List UInt8) (hp : t.data.toList = p) (hR : Rst sp B rb tsb mb K1 d m c w s) (hP : Pow w) (htot : s.ps + (d ++ p).length ≤ 4000) (hask : c.asked + 32000 < 2 ^ 62) :
    Calls Tryz.prog 18 #[.pointer (some ⟨rb, 0, none⟩), .string t] w (RanR sp B rb tsb mb K1 (d ++ p) m c w s) := by
  obtain ⟨i0, hi, hz0, hz1, hz2⟩ := info_parts info5
  have hne := neq_err
  have hnn := neq_nil
  have htl : t.size = p.length := by rw [← hp]; simp
  have hDl : (d ++ p).length = d.length + p.length := by simp
  have hstr : d.map bv ++ Lib.strCells t = (d ++ p).map bv := by
    have : Lib.strCells t = p.map bv := by simp [Lib.strCells, hp, bv]
    rw [this, List.map_append]
  have hrow := hR.drow
  obtain ⟨da, dc, hdv⟩ := ownsRow_form hR.drow
  have k0 : w.cell? ⟨rb, 0, none⟩ = some s.dv := hR.rd.c0
  have hts : t.size ≤ 4000 := by omega
  have hdl4 : d.length ≤ 4000 := by omega
  have hbs := hR.bsz
  have HR := hide hR
  have HTL := hide htl
  have HDL := hide hDl
  have HSTR := hide hstr
  have HTOT := hide htot
  have HP := hide hP
  have HDV := hide hdv
  have hrb0 : s.dv.ownBlock ≠ some rb := fun e => (bytes_ne hR.rd hR.tabs (row_block hR.drow e).2).1 rfl
  clear htl hDl hstr htot hP hR hp hdv
  go_enter Tryz.func18, Tryz.ntmps18
  go_wp2_with (at_builtin; refine wpList_append_at _ rfl (.tmp 12) (.tmp 13) 61 9 rfl B 5 i0 Tryz.underlying61 Tryz.underlying9 hi hz0 hz1 hz2 s.dv d.length (d.map bv) rfl hrow t rfl (by unfold maxLen; omega) (by omega) hbs ?hK)
  case hK =>
    intro v' w1 hown1 hgr1 hloc1
    rw [HSTR.out, HTL.out, ← HDL.out] at hown1
    have hf1 : Fr (fun k => s.dv.ownBlock = some k) w w1 := ⟨hgr1.os, hgr1.tape, hgr1.output, hgr1.size, fun k hk hs => hgr1.block k hk (fun e => hs e.symm)⟩
    have hA := HR.out.app hf1 hown1 hloc1 HTOT.out
    have hrd1 := hf1.at HR.out.rd.1 hrb0
    have k01 : w1.cell? ⟨rb, 0, none⟩ = some s.dv := by rw [cell_of hrd1]; rfl
    have f01 := frozen_of hrd1 0
    obtain ⟨nD, hnD⟩ : ∃ nD, nD = (d ++ p).length := ⟨_, rfl⟩
    rw [← hnD] at hown1
    obtain ⟨ao, cap, rfl⟩ := ownsRow_form hown1
    have HA := hide hA
    clear hA hown1 hgr1 hloc1 hf1 hrd1
    obtain ⟨w2, hw2⟩ : ∃ w2, w2 = w1.setCell ⟨rb, 0, none⟩ (.slice ao nD cap) := ⟨_, rfl⟩
    rw [← hw2] at HA
    have hR2 := HA.out.1
    obtain ⟨oa, oc, hov⟩ := ownsRow_form HR.out.row
    have k25 : w2.cell? ⟨rb, 5, none⟩ = some (.slice oa m.out.length oc) := by rw [hR2.rd.c4]; exact congrArg some hov
    obtain ⟨db, K0, hS2, hK0, hpos2⟩ := hR2.std
    have HCALL := hide (steps_any sp B rb db tsb mb K0 (d ++ p) m c w2 _ hS2 hR2.sound hpos2 (by have := HTOT.out; omega))
    have HK0 := hide hK0
    have HR2 := hide hR2
    have HW2 := hide hw2
    have HPOS2 := hide hpos2
    clear hS2 hK0 hR2 hw2 hnD hpos2
    go_upto_region 2 with fail
    rw [← HW2.out]
    go_wp2_with fail
    refine HCALL.out.mono ?_
    rintro e w3 hran
    obtain ⟨hf3, k, o, K1', c', s3, q, hst, hR3, hk3, ht3, hdvn, hend⟩ := after_steps HR2.out HK0.out HPOS2.out hran
    have hfw3 : Fr (Own B K1) w w3 := HA.out.2.trans hf3
    have hP3 : Pow w3 := HP.out.fr hfw3 (by have := HR.out.b13; have := HR.out.bsz; omega) (fun e => by have := e.1; have := HR.out.b13; omega)
    have hst : Gz.step (d ++ p) s.lim (Gz.final (d ++ p) s.lim m) = .error (k, o) := hst
    have HST := hide hst
    have HK3 : Hid (Keeps { s with dv := .slice ao nD cap } s3) := hk3
    have ht3w : Turned K1 K1' w w3 m (Gz.final (d ++ p) s.lim m) c c' := ⟨⟨ht3.grow.1, fun k hk => (ht3.grow.2 k hk).imp id (fun h => ⟨Nat.le_trans HA.out.2.size h.1, h.2⟩)⟩, ht3.asks, ht3.few⟩
    have HT3 := hide ht3w
    have HDVN := hide hdvn
    have HFW3 := hide hfw3
    have HR3 : Hid (Rst sp B rb tsb mb K1' (d ++ p) { Gz.final (d ++ p) s.lim m with out := o, pos := q } c' w3 s3) := hR3
    have HGROW : Hid (∃ x, o = m.out ++ x) := by
      obtain ⟨x, hx⟩ := Gz.final_grow (d ++ p) s.lim m HPOS2.out
      obtain ⟨y, hy⟩ := (Gz.step_grow (m := Gz.final (d ++ p) s.lim m)).2 k o hst
      exact ⟨x ++ y, by rw [hy, hx, List.append_assoc]⟩
    clear hst hk3 ht3 ht3w hdvn hfw3 hR3 hran hf3
    rcases hend with ⟨rfl, hq, rfl⟩ | ⟨hk2, hk8, hq, v, n, rfl, hv⟩
    · have HRA := HR3
      have HPASS := hide HRA.out.pass
      go_wp2_with fail
      refine HPASS.out.mono ?_
      rintro e wb ⟨rfl, s4, hR4, hps4, hlim4, hov4, hf4⟩
      obtain ⟨x, hx⟩ := HGROW.out
      have hol : m.out.length ≤ o.length := by rw [hx, List.length_append]; omega
      have hfb : Fr (Own B K1) w wb := HFW3.out.trans ((Fr.refl (Own B K1) w3).trans (hf4.mono (fun k _ e => by
        rcases e with rfl | e
        · exact ⟨HR.out.brb, HR.out.rbK⟩
        · exact ⟨(HDVN.out k e).2, (HDVN.out k e).1⟩)))
      have hturn : Turned K1 K1' w wb m (Gz.final (d ++ p) s.lim m) c c' := ⟨⟨HT3.out.grow.1, fun k hk => (HT3.out.grow.2 k hk).imp id (fun h => ⟨h.1, Nat.lt_of_lt_of_le h.2 (Nat.le_trans (Nat.le_refl _) hf4.size)⟩)⟩, HT3.out.asks, HT3.out.few⟩
      have k4 := hR4.rd.c4
      have HR4 := hide hR4
      have HFB := hide hfb
      have HTN := hide hturn
      have HPS4 := hide (show s4.ps = s.ps + q / 8 from hps4.trans (by rw [HK3.out.ps]))
      have HLIM4 := hide (show s4.lim = s.lim from hlim4.trans HK3.out.lim)
      have hrow4 := hR4.row
      have HHX := hide hx
      clear hR4 hfb hturn hps4 hlim4 hx hov4
      rcases hrow4.2 with ⟨e4, h40⟩ | ⟨g4, cap4, cur4, e4, hb4, hh4, hnc4, hcm4, hcs4, htk4⟩
      · rw [e4] at k4
        have h40 : o.length = 0 := h40
        have ho0 : o = [] := List.length_eq_zero_iff.1 h40
        have hm0 : m.out.length = 0 := by omega
        have hcv := conv_none wb
        clear hrow4 e4
        rw [hm0]
        go_wp2
        go_ret2
        refine ⟨HFB.out, _, o, q, K1', c', s4, HST.out, HR4.out, HPS4.out, HLIM4.out, HTN.out, Or.inl ⟨rfl, hq, ?_⟩⟩
        rw [ho0, hm0]; rfl
      · have h4l : ({ Gz.final (d ++ p) s.lim m with out := o, pos := q % 8 } : Gz.M).out.length = o.length := rfl
        rw [e4, h4l] at k4
        have hcell : ∀ i, i < o.length → wb.cell? ⟨g4, i, none⟩ = some (.int .u8 (o.getD i 0).toNat) := fun i hi => by
          rw [cell_of hh4]
          have e1 : (cur4.toList.take (o.length * 1))[i]? = (o.map bv)[i]? := by rw [← htk4]
          rw [List.getElem?_take_of_lt (by omega)] at e1
          rw [← Array.getElem?_toList, e1]
          simp [bv, List.getD, hi]
        have hnc4 : o.length ≤ cap4 := hnc4
        obtain ⟨n1, hn1⟩ : ∃ n1, n1 = m.out.length := ⟨_, rfl⟩
        obtain ⟨n2, hn2⟩ : ∃ n2, n2 = o.length := ⟨_, rfl⟩
        have h12 : n1 ≤ n2 := by omega
        have h2c : n2 ≤ cap4 := by omega
        have HN1 := hide hn1
        have hcvA := conv_some wb g4 n1 (n2 - n1) (cap4 - n1) o ⟨g4, n1, none⟩ (Or.inl rfl) hcell (by rw [hn2])
        rw [← hn2] at k4
        rw [← hn1]
        by_cases hcn : cap4 = n1
        · have hcvB := conv_some wb g4 n1 0 0 o ⟨g4, 0, none⟩ (Or.inr (by omega)) hcell (by omega)
          have HCN := hide hcn
          clear hcell hrow4 e4 h4l htk4 hcs4 hcvA hn1 hn2
          subst hcn
          go_wp2
          go_ret2
          refine ⟨HFB.out, _, o, q, K1', c', s4, HST.out, HR4.out, HPS4.out, HLIM4.out, HTN.out, Or.inl ⟨rfl, hq, ?_⟩⟩
          rw [← HN1.out]; rfl
        · clear hcell hrow4 e4 h4l htk4 hcs4 hn1 hn2
          go_wp2
          go_ret2
          refine ⟨HFB.out, _, o, q, K1', c', s4, HST.out, HR4.out, HPS4.out, HLIM4.out, HTN.out, Or.inl ⟨rfl, hq, ?_⟩⟩
          rw [← HN1.out]; rfl

    · obtain ⟨ty, pv, rfl⟩ := hv.iface
      have c1p := HR3.out.rd.cp
      have c2b := HR3.out.rd.c2
      have hcb := capB_le s3.bg
      have hps3 : s3.ps ≤ 4000 := by have := HR3.out.tot; omega
      have HV := hide hv
      have HP3 := hide hP3
      have HQ := hide hq
      clear hv hP3 hq
      obtain ⟨zz, hzz⟩ : ∃ zz : Int, zz = 8 * (s3.ps : Int) + ((capB s3.bg : Nat) : Int) := ⟨_, rfl⟩
      have hil := Lib.itoa_length_le zz (by omega) (by omega)
      have hadd : ∀ w : World, (Op.stringOp .add (ByteArray.mk #[116, 104, 101, 32, 115, 116, 101, 112, 32, 102, 114, 111, 109, 32, 98, 105, 116, 32]) ⟨(Lib.itoa zz).toArray⟩).run Tryz.prog w = .ok (.string (ByteArray.mk #[116, 104, 101, 32, 115, 116, 101, 112, 32, 102, 114, 111, 109, 32, 98, 105, 116, 32] ++ ⟨(Lib.itoa zz).toArray⟩)) w := fun w => run_string_add_sum w _ _ (by simp [ByteArray.size]; omega)
      have HZZ := hide hzz
      have HITOA := hide (Tryz.strconv_Itoa zz (by omega) (by omega) (World.drew w3) HP3.out)
      clear hzz
      go_wp2
      refine wp_region_held (S := fun W => W.cell? ⟨rb, 1, none⟩ = some (.int .i64 s3.ps) ∧ W.cell? ⟨rb, 3, none⟩ = some (.int .i64 (capB s3.bg))) (by kernel_rfl) ?_
      change wpAnyH _ _ _ _ _ _ _ _ (World.drew _)
      have hS0 : (World.drew w3).cell? ⟨rb, 1, none⟩ = some (.int .i64 s3.ps) ∧ (World.drew w3).cell? ⟨rb, 3, none⟩ = some (.int .i64 (capB s3.bg)) := ⟨c1p, c2b⟩
      refine wpAnyH_take (i := 0) (v := ?_) rfl (by kernel_rfl) (by kernel_rfl) (by kernel_rfl) (fun _ _ _ h => h) (Or.inl ⟨by rfl, by intro w _; go_simp; with_reducible rfl⟩) hS0 ?_
      refine wpAnyH_take (i := 1) (v := ?_) rfl (by kernel_rfl) (by kernel_rfl) (by kernel_rfl) (fun _ _ _ h => h) (Or.inl ⟨by rfl, by intro w _; go_simp; with_reducible rfl⟩) hS0 ?_
      refine wpAnyH_take (i := 2) (v := ?_) rfl (by kernel_rfl) (by kernel_rfl) (by kernel_rfl) (fun _ _ _ h => h) (Or.inl ⟨by rfl, by intro w _; go_simp; with_reducible rfl⟩) hS0 ?_
      refine wpAnyH_take (i := 3) (v := .int .i64 s3.ps) rfl (by kernel_rfl) (by kernel_rfl) (by kernel_rfl) (fun _ _ _ h => h) (Or.inl ⟨by rfl, by intro w h; have h := h.1; go_simp⟩) hS0 ?_
      refine wpAnyH_take (i := 4) (v := .int .i64 (8 * (s3.ps : Int))) rfl (by kernel_rfl) (by kernel_rfl) (by kernel_rfl) (fun _ _ _ h => h) (Or.inl ⟨by rfl, by intro w _; go_simp; rw [wrap_id _ (by omega) (by omega)]⟩) hS0 ?_
      refine wpAnyH_take (i := 5) (v := ?_) rfl (by kernel_rfl) (by kernel_rfl) (by kernel_rfl) (fun _ _ _ h => h) (Or.inl ⟨by rfl, by intro w _; go_simp; with_reducible rfl⟩) hS0 ?_
      refine wpAnyH_take (i := 6) (v := ?_) rfl (by kernel_rfl) (by kernel_rfl) (by kernel_rfl) (fun _ _ _ h => h) (Or.inl ⟨by rfl, by intro w _; go_simp; with_reducible rfl⟩) hS0 ?_
      refine wpAnyH_take (i := 7) (v := ?_) rfl (by kernel_rfl) (by kernel_rfl) (by kernel_rfl) (fun _ _ _ h => h) (Or.inl ⟨by rfl, by intro w _; go_simp; with_reducible rfl⟩) hS0 ?_
      refine wpAnyH_take (i := 8) (v := .int .i64 (capB s3.bg)) rfl (by kernel_rfl) (by kernel_rfl) (by kernel_rfl) (fun _ _ _ h => h) (Or.inl ⟨by rfl, by intro w h; have h := h.2; go_simp⟩) hS0 ?_
      refine wpAnyH_take (i := 9) (v := .int .i64 zz) rfl (by kernel_rfl) (by kernel_rfl) (by kernel_rfl) (fun _ _ _ h => h) (Or.inl ⟨by rfl, by intro w _; go_simp; rw [wrap_id _ (by omega) (by omega), HZZ.out]⟩) hS0 ?_
      refine wpAnyH_take (i := 12) (v := ?_) rfl (by kernel_rfl) (by kernel_rfl) (by kernel_rfl) (fun _ _ _ h => h) (Or.inl ⟨by rfl, by intro w _; go_simp; with_reducible rfl⟩) hS0 ?_
      refine wpAnyH_one (i := 10) (by kernel_rfl) rfl rfl (fun K'' hK' => ?_)
      go_simp
      refine HITOA.out.mono ?_
      rintro e w4 ⟨rfl, kk, os, hw4⟩
      have hf4n : Fr No w3 w4 := by rw [hw4]; exact (Fr.refl No w3).drew.trans (grow_fr (World.drew w3) os kk)
      have hS4 : w4.cell? ⟨rb, 1, none⟩ = some (.int .i64 s3.ps) ∧ w4.cell? ⟨rb, 3, none⟩ = some (.int .i64 (capB s3.bg)) := ⟨(HR3.out.rd.fr hf4n (no_no _)).cp, (HR3.out.rd.fr hf4n (no_no _)).c2⟩
      refine hK' _ _ hS4 ?_
      clear hK' K'' hw4
      refine wpAnyH_take (i := 11) (v := .string (ByteArray.mk #[116, 104, 101, 32, 115, 116, 101, 112, 32, 102, 114, 111, 109, 32, 98, 105, 116, 32] ++ ⟨(Lib.itoa zz).toArray⟩)) rfl (by kernel_rfl) (by kernel_rfl) (by kernel_rfl) (fun _ _ _ h => h) (Or.inl ⟨by rfl, by intro w _; go_simp⟩) hS4 ?_
      refine wpAnyH_take (i := 13) (v := ?_) rfl (by kernel_rfl) (by kernel_rfl) (by kernel_rfl) (fun _ _ _ h => h) (Or.inl ⟨by rfl, by intro w _; go_simp; with_reducible rfl⟩) hS4 ?_
      refine wpAnyH_one (i := 14) (by kernel_rfl) rfl rfl (fun K'' hK' => ?_)
      go_simp
      obtain ⟨wa, hwa⟩ : ∃ wa, wa = w4.alloc (.cells #[.string (ByteArray.mk #[116, 104, 101, 32, 115, 116, 101, 112, 32, 102, 114, 111, 109, 32, 98, 105, 116, 32] ++ ⟨(Lib.itoa zz).toArray⟩), .iface ty (.pointer (some pv))] 90) := ⟨_, rfl⟩
      rw [← hwa]
      have hfa : Fr No w3 wa := by rw [hwa]; exact hf4n.alloc _
      have hfl : wa.heap[w4.heap.size]? = some (.cells #[.string (ByteArray.mk #[116, 104, 101, 32, 115, 116, 101, 112, 32, 102, 114, 111, 109, 32, 98, 105, 116, 32] ++ ⟨(Lib.itoa zz).toArray⟩), .iface ty (.pointer (some pv))] 90 (0, 0)) := by rw [hwa]; exact alloc_at w4 _
      have HVA : Hid (Err sp wa (.iface 87 (.pointer (some ⟨w4.heap.size, 0, none⟩))) k (n + 1)) := .fault _ _ _ k n hfl (HV.out.fr hfa)
      have hSa : wa.cell? ⟨rb, 1, none⟩ = some (.int .i64 s3.ps) ∧ wa.cell? ⟨rb, 3, none⟩ = some (.int .i64 (capB s3.bg)) := ⟨(HR3.out.rd.fr hfa (no_no _)).cp, (HR3.out.rd.fr hfa (no_no _)).c2⟩
      refine hK' _ _ hSa ?_
      clear hK' K''
      refine wpAnyH_take (i := 15) (v := ?_) rfl (by kernel_rfl) (by kernel_rfl) (by kernel_rfl) (fun _ _ _ h => h) (Or.inl ⟨by rfl, by intro w _; go_simp; with_reducible rfl⟩) hSa ?_
      refine wpAnyH_take (i := 16) (v := ?_) rfl (by kernel_rfl) (by kernel_rfl) (by kernel_rfl) (fun _ _ _ h => h) (Or.inl ⟨by rfl, by intro w _; go_simp; with_reducible rfl⟩) hSa ?_
      refine wpAnyH_done (by kernel_rfl) ?_ _
      simp only [List.getElem_toArray, List.getElem_cons_succ, List.getElem_cons_zero]
      go_frame
      have HRA := hide (HR3.out.still hfa)
      have HFA := hide hfa
      clear hfa hfl hwa hSa hS4 hf4n hS0 c1p c2b
      have HPASS := hide HRA.out.pass
      go_wp2_with fail
      refine HPASS.out.mono ?_
      rintro e wb ⟨rfl, s4, hR4, hps4, hlim4, hov4, hf4⟩
      obtain ⟨x, hx⟩ := HGROW.out
      have hol : m.out.length ≤ o.length := by rw [hx, List.length_append]; omega
      have hfb : Fr (Own B K1) w wb := HFW3.out.trans (HFA.out.of_no.trans (hf4.mono (fun k _ e => by
        rcases e with rfl | e
        · exact ⟨HR.out.brb, HR.out.rbK⟩
        · exact ⟨(HDVN.out k e).2, (HDVN.out k e).1⟩)))
      have hturn : Turned K1 K1' w wb m (Gz.final (d ++ p) s.lim m) c c' := ⟨⟨HT3.out.grow.1, fun k hk => (HT3.out.grow.2 k hk).imp id (fun h => ⟨h.1, Nat.lt_of_lt_of_le h.2 (Nat.le_trans HFA.out.size hf4.size)⟩)⟩, HT3.out.asks, HT3.out.few⟩
      have k4 := hR4.rd.c4
      have HR4 := hide hR4
      have HFB := hide hfb
      have HTN := hide hturn
      have HPS4 := hide (show s4.ps = s.ps + q / 8 from hps4.trans (by rw [HK3.out.ps]))
      have HLIM4 := hide (show s4.lim = s.lim from hlim4.trans HK3.out.lim)
      have hrow4 := hR4.row
      have HHX := hide hx
      have hbr0 : ∀ {k' : Nat}, s3.dv.ownBlock = some k' → ∃ cur, w3.heap[k']? = some (.cells cur 5 (0, 0)) := fun e => (row_block HR3.out.drow e).2
      have HVB : Hid (Err sp wb (.iface 87 (.pointer (some ⟨w4.heap.size, 0, none⟩))) k (n + 1)) := HVA.out.frBytes (HRA.out.rd) (fun k' e => (row_block HRA.out.drow e).2) hf4
      clear hbr0
      clear hR4 hfb hturn hps4 hlim4 hx hov4
      rcases hrow4.2 with ⟨e4, h40⟩ | ⟨g4, cap4, cur4, e4, hb4, hh4, hnc4, hcm4, hcs4, htk4⟩
      · rw [e4] at k4
        have h40 : o.length = 0 := h40
        have ho0 : o = [] := List.length_eq_zero_iff.1 h40
        have hm0 : m.out.length = 0 := by omega
        have hcv := conv_none wb
        clear hrow4 e4
        rw [hm0]
        go_wp2
        go_ret2
        refine ⟨HFB.out, _, o, q, K1', c', s4, HST.out, HR4.out, HPS4.out, HLIM4.out, HTN.out, Or.inr ⟨hk2, hk8, HQ.out, _, n + 1, ?_, HVB.out⟩⟩
        rw [ho0, hm0]; rfl
      · have h4l : ({ Gz.final (d ++ p) s.lim m with out := o, pos := q % 8 } : Gz.M).out.length = o.length := rfl
        rw [e4, h4l] at k4
        have hcell : ∀ i, i < o.length → wb.cell? ⟨g4, i, none⟩ = some (.int .u8 (o.getD i 0).toNat) := fun i hi => by
          rw [cell_of hh4]
          have e1 : (cur4.toList.take (o.length * 1))[i]? = (o.map bv)[i]? := by rw [← htk4]
          rw [List.getElem?_take_of_lt (by omega)] at e1
          rw [← Array.getElem?_toList, e1]
          simp [bv, List.getD, hi]
        have hnc4 : o.length ≤ cap4 := hnc4
        obtain ⟨n1, hn1⟩ : ∃ n1, n1 = m.out.length := ⟨_, rfl⟩
        obtain ⟨n2, hn2⟩ : ∃ n2, n2 = o.length := ⟨_, rfl⟩
        have h12 : n1 ≤ n2 := by omega
        have h2c : n2 ≤ cap4 := by omega
        have HN1 := hide hn1
        have hcvA := conv_some wb g4 n1 (n2 - n1) (cap4 - n1) o ⟨g4, n1, none⟩ (Or.inl rfl) hcell (by rw [hn2])
        rw [← hn2] at k4
        rw [← hn1]
        by_cases hcn : cap4 = n1
        · have hcvB := conv_some wb g4 n1 0 0 o ⟨g4, 0, none⟩ (Or.inr (by omega)) hcell (by omega)
          have HCN := hide hcn
          clear hcell hrow4 e4 h4l htk4 hcs4 hcvA hn1 hn2
          subst hcn
          go_wp2
          go_ret2
          refine ⟨HFB.out, _, o, q, K1', c', s4, HST.out, HR4.out, HPS4.out, HLIM4.out, HTN.out, Or.inr ⟨hk2, hk8, HQ.out, _, n + 1, ?_, HVB.out⟩⟩
          rw [← HN1.out]; rfl
        · clear hcell hrow4 e4 h4l htk4 hcs4 hn1 hn2
          go_wp2
          go_ret2
          refine ⟨HFB.out, _, o, q, K1', c', s4, HST.out, HR4.out, HPS4.out, HLIM4.out, HTN.out, Or.inr ⟨hk2, hk8, HQ.out, _, n + 1, ?_, HVB.out⟩⟩
          rw [← HN1.out]; rfl
end Go.Proofs.YtjjjlilflbddoaaGreatDoor
