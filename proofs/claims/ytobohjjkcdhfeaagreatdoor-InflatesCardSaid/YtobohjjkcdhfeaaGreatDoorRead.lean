import Derived.Test.YtobohjjkcdhfeaaGreatDoorSteps
import Derived.Test.YtobohjjkcdhfeaaGreatDoorShelf
import Derived.Lib.AppendStr
import Derived.WalkSmall
import Derived.Lib.ItoaLen
import Derived.Laws.BytesString
namespace Go.Proofs.YtobohjjkcdhfeaaGreatDoor
open Go.RowKit

def Pow (w : World) : Prop := Lib.TabIs Tryz.prog w "internal/strconv.uint64pow10" .u64 Lib.pow10Tab
theorem g8 : Tryz.prog.globalNamed "internal/strconv.uint64pow10" = some 9 := by kernel_rfl
theorem Pow.fr {S : Nat → Prop} {w w' : World} (h : Pow w) (f : Fr S w w') (h8 : 9 < w.heap.size) (hs : ¬ S 9) : Pow w' := by
  have hb : Below 10 w w' → Pow w' := fun hb => var?_below hb g8 (by omega) h
  unfold Pow Lib.TabIs World.var? at *
  simp only [g8, Option.bind_some] at h ⊢
  rw [f.block 9 h8 hs]
  exact h
theorem grow_fr (w : World) (os : Array Obj) (k : Nat) : Fr No w (Sort.grow (w.drewN k) os) :=
  ⟨rfl, rfl, rfl, by simp, fun i hi _ => by rw [Sort.heap_grow_old _ _ (by exact hi)]; rfl⟩

theorem newReader_any (lim : Nat) (w : World) :
    Calls Tryz.prog 7 #[.int .i64 lim] w fun e w' => e = .returned (.pointer (some ⟨w.heap.size, 0, none⟩)) ∧ w' = w.alloc (.cells (RS.cells ⟨.slice none 0 0, 0, 0, lim, .slice none 0 0, 0, false, 0, .pointer none⟩) 48) := by
  go_enter Tryz.func7, Tryz.ntmps7
  go_wp2
  go_ret
  exact ⟨rfl, rfl⟩

/-- The reader, new. -/
def fresh (lim : Nat) : RS := ⟨.slice none 0 0, 0, 0, lim, .slice none 0 0, 0, false, 0, .pointer none⟩

/-- How Read comes to its end. -/
def RanR (sp : Nat → Addr) (B rb lim : Nat) (d : List UInt8) (w : World) (r : Gz.Out (List UInt8)) (e : Ending) (w' : World) : Prop :=
  Fr (fun k => B ≤ k) w w' ∧ match r with
  | .ok (o, q) => e = .returned .nilIface ∧ q ≤ 8 * d.length ∧ o.length ≤ lim ∧ ∃ db K' s, Live sp B rb db K' d o w' s ∧ s.pos = q
  | .error k => 2 ≤ k ∧ k ≤ 8 ∧ ∃ v n, e = .returned v ∧ Err sp w' v k n

theorem Rd.s0 {w : World} {rb : Nat} {s : RS} (h : Rd w rb s) (v : Value) : Rd (w.setCell ⟨rb, 0, none⟩ v) rb { s with dv := v } := by unfold Rd; rw [set_of h]; rfl

/-- What append left is the data. -/
theorem dat_of_row {w : World} {B rb : Nat} {s : RS} {v : Value} {t : ByteArray} {d : List UInt8} (h : w.ownsRow B 5 1 v t.size (Lib.strCells t)) (hr : Rd w rb s) (hd : t.data.toList = d) (hw : 0 < w.heap.size) (hB : B ≤ rb) (h0 : 0 < B) :
    ∃ db, db ≠ rb ∧ db < w.heap.size ∧ Dat w db v d := by
  have htl : t.size = d.length := by rw [← hd]; simp
  rcases h.2 with ⟨h1, h2⟩ | ⟨g, cap, cur, h1, h2, h3, h4, h5, h6, h7⟩
  · refine ⟨0, by omega, hw, none, 0, by rw [h1, ← htl, h2], fun i hi => by omega⟩
  · have hgr : g ≠ rb := by
      intro e; subst e
      have h := hr; unfold Rd at h; rw [h3] at h; simp at h
    refine ⟨g, hgr, lt_of h3, _, cap, by rw [h1, htl], fun i hi => ⟨rfl, lt_of h3, ?_⟩⟩
    rw [cell_of h3]
    have e1 : (cur.toList.take (t.size * 1))[i]? = (Lib.strCells t)[i]? := by rw [h7]
    rw [List.getElem?_take_of_lt (by omega)] at e1
    rw [← Array.getElem?_toList, e1]
    simp [Lib.strCells, hd, List.getD, hi]

set_option maxRecDepth 100000 in
set_option maxHeartbeats 1600000 in
theorem read_any (sp : Nat → Addr) (B rb lim : Nat) (t : ByteArray) (d : List UInt8) (w : World) (hd : t.data.toList = d) (hE : Env sp w) (hP : Pow w) (hr : Rd w rb (fresh lim)) (hB : 14 ≤ B) (hBr : B ≤ rb) (hl6 : lim ≤ 6000) (hn : d.length ≤ 4000) :
    Calls Tryz.prog 8 #[.pointer (some ⟨rb, 0, none⟩), .string t] w (RanR sp B rb lim d w (Gz.read d lim)) := by
  obtain ⟨i0, hi, hz0, hz1, hz2⟩ := info_parts info5
  have hne := neq_err
  have hnn := neq_nil
  have hrl := hr.lt
  have htl : t.size = d.length := by rw [← hd]; simp
  have k0 : w.cell? ⟨rb, 0, none⟩ = some (.slice none 0 0) := hr.c0
  have hts : t.size ≤ 4000 := by omega
  have HTL := hide htl
  have HD := hide hd
  have HN := hide hn
  clear htl hd hn
  go_enter Tryz.func8, Tryz.ntmps8
  go_wp2_with (at_builtin; refine Lib.wpList_append_own_string _ rfl (.tmp 10) (.tmp 11) 39 9 rfl B 5 i0 Tryz.underlying39 Tryz.underlying9 hi hz0 hz1 hz2 (.slice none 0 0) 0 [] rfl (World.ownsRow_nil _ _ _ _) t rfl (by unfold maxLen; omega) (by omega) (by omega) ?hK)
  case hK =>
    intro v' w1 hown1 hgr1 _
    have hf1 : Fr No w w1 := grown_frNo hgr1
    have hs1 := hf1.size
    have hr1 := hr.fr hf1 (no_no _)
    have k01 := hr1.c0
    have f01 := hr1.fz 0
    obtain ⟨db, hdr, hdl, hdat⟩ := dat_of_row (by simpa using hown1) hr1 HD.out (by omega) hBr (by omega)
    obtain ⟨ao, cap, rfl⟩ := ownsRow_form hown1
    have hf2 : Fr (One rb) w1 (w1.setCell ⟨rb, 0, none⟩ (.slice ao t.size cap)) := (Fr.refl _ _).setCell (fun _ => one_self rb) _
    have hr2 := hr1.s0 (.slice ao t.size cap)
    have hE2 : Env sp (w1.setCell ⟨rb, 0, none⟩ (.slice ao t.size cap)) := (hE.fr hf1 (fun k _ => no_no k)).fr hf2 (fun k hk => one_ne (by omega))
    have hsz2 := hf2.size
    have hL : Live sp B rb db [db] d [] (w1.setCell ⟨rb, 0, none⟩ (.slice ao t.size cap)) ⟨.slice ao t.size cap, 0, 0, lim, .slice none 0 0, 0, false, 0, .pointer none⟩ := {
      env := hE2
      rd := hr2
      dat := hdat.fr hf2 (one_ne hdr)
      row := World.ownsRow_nil _ _ _ _
      apart := fun k hk => by simp [Value.ownBlock] at hk
      b13 := hB
      bsz := by omega
      brb := hBr
      dbK := List.mem_singleton.2 rfl
      rbK := fun e => hdr (List.mem_singleton.1 e).symm
      klt := fun k hk => by rw [List.mem_singleton.1 hk]; omega
      lim := hl6
      len := Nat.zero_le _
      dlen := HN.out }
    have hS : Stands sp B rb db d (w1.setCell ⟨rb, 0, none⟩ (.slice ao t.size cap)) { place := .inl (false, false), last := false, out := [] } [db] ⟨.slice ao t.size cap, 0, 0, lim, .slice none 0 0, 0, false, 0, .pointer none⟩ := ⟨hL, rfl, rfl⟩
    have hPw : Pow (w1.setCell ⟨rb, 0, none⟩ (.slice ao t.size cap)) := (hP.fr hf1 (by omega) (no_no _)).fr hf2 (by omega) (one_ne (by omega))
    have hfw : Fr (fun k => B ≤ k) w (w1.setCell ⟨rb, 0, none⟩ (.slice ao t.size cap)) := (hf1.mono (fun k _ h => h.elim)).trans (hf2.mono (fun k _ h => by have e : k = rb := h; omega))
    have HO1 := hide hown1
    have HD2 := hide hdat
    have HS := hide hS
    have HE2 := hide hE2
    have HPW := hide hPw
    have HFW := hide hfw
    have HF2 := hide hf2
    have HF1 := hide hf1
    have HR2 := hide hr2
    clear hown1 hgr1 hdat hL hS hE2 hPw hfw hf2 hf1 hr2
    go_wp2_with fail
    have hcall := steps_any sp B rb db [db] _ d _ _ HS.out (Nat.zero_le _)
    refine hcall.mono ?_
    rintro e w3 ⟨hf3, hres⟩
    have hfw3 : Fr (fun k => B ≤ k) w w3 := HFW.out.trans (hf3.mono (fun k _ h => h.1))
    have hP3 : Pow w3 := HPW.out.fr hf3 (by have := HE2.out.size; omega) (fun h => by have := h.1; omega)
    cases hg : Gz.read d lim with
    | ok okk =>
      obtain ⟨o, q⟩ := okk
      have hg' : Gz.iter (8 * d.length) (Gz.goOn d lim) { place := .inl (false, false), last := false, out := [] } 0 = .ok (o, q) := hg
      simp only [hg'] at hres
      obtain ⟨rfl, hq, K', s3, hL3, hp3, hl3⟩ := hres
      go_wp2
      go_ret
      refine ⟨hfw3, ?_⟩
      rw [hg]
      exact ⟨rfl, hq, by have := hL3.len; rw [hl3] at this; exact this, db, K', s3, hL3, hp3⟩
    | error k =>
      have hg' : Gz.iter (8 * d.length) (Gz.goOn d lim) { place := .inl (false, false), last := false, out := [] } 0 = .error k := hg
      simp only [hg'] at hres
      obtain ⟨hk2, hk8, ⟨s3, hr3⟩, v, n, rfl, hv⟩ := hres
      obtain ⟨ty, p', rfl⟩ := hv.iface
      have c2 := hr3.c2
      have hcb := capB_le s3.bg
      have HV := hide hv
      have HFW3 := hide hfw3
      have HP3 := hide hP3
      clear hv hfw3 hP3
      have HG := hide hg
      clear hg hg'
      go_wp2_with fail
      refine (Tryz.strconv_Itoa _ (by omega) (by omega) _ HP3.out).mono ?_
      rintro e w4 ⟨rfl, kk, os, rfl⟩
      have hil := Lib.itoa_length_le (capB s3.bg : Nat) (by omega) (by omega)
      have hf4 := grow_fr w3 os kk
      have hv4 := HV.out.fr hf4
      have hfw4 := HFW3.out.trans hf4.of_no
      have hadd : ∀ w : World, (Op.stringOp .add (ByteArray.mk #[116, 104, 101, 32, 115, 116, 101, 112, 32, 102, 114, 111, 109, 32, 98, 105, 116, 32]) ⟨(Lib.itoa (capB s3.bg : Nat)).toArray⟩).run Tryz.prog w = .ok (.string (ByteArray.mk #[116, 104, 101, 32, 115, 116, 101, 112, 32, 102, 114, 111, 109, 32, 98, 105, 116, 32] ++ ⟨(Lib.itoa (capB s3.bg : Nat)).toArray⟩)) w := fun w => run_string_add_sum w _ _ (by simp [ByteArray.size]; omega)
      have HV4 := hide hv4
      have HFW4 := hide hfw4
      clear hv4 hfw4 hf4
      go_wp2
      go_ret
      have hsz : (Sort.grow (w3.drewN kk) os).heap.size = w3.heap.size + os.size := by simp
      have hal := (Fr.refl No (Sort.grow (w3.drewN kk) os)).alloc (.cells #[.string (ByteArray.mk #[116, 104, 101, 32, 115, 116, 101, 112, 32, 102, 114, 111, 109, 32, 98, 105, 116, 32] ++ ⟨(Lib.itoa (capB s3.bg : Nat)).toArray⟩), .iface ty (.pointer (some p'))] 53)
      refine ⟨HFW4.out.trans hal.of_no, ?_⟩
      rw [HG.out]
      refine ⟨hk2, hk8, _, n + 1, rfl, ?_⟩
      have hat := alloc_at (Sort.grow (w3.drewN kk) os) (.cells #[.string (ByteArray.mk #[116, 104, 101, 32, 115, 116, 101, 112, 32, 102, 114, 111, 109, 32, 98, 105, 116, 32] ++ ⟨(Lib.itoa (capB s3.bg : Nat)).toArray⟩), .iface ty (.pointer (some p'))] 53)
      rw [hsz] at hat
      exact .fault _ _ _ k n hat (HV4.out.fr hal)
end Go.Proofs.YtobohjjkcdhfeaaGreatDoor
