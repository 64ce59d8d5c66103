import Derived.Test.YtobohjjkcdhfeaaGreatDoorRead
import Derived.Test.YtobohjjkcdhfeaaGreatDoorTolds
import Derived.Laws.IdiomStrings
namespace Go.Proofs.YtobohjjkcdhfeaaGreatDoor
open Go.RowKit

theorem Live.conv {sp : Nat → Addr} {B rb db : Nat} {K : List Nat} {d out : List UInt8} {w : World} {s : RS} (h : Live sp B rb db K d out w s) : (convert 39 9 s.ov).run Tryz.prog w = .ok (.string ⟨out.toArray⟩) w := by
  rcases h.row.2 with ⟨h1, h0⟩ | ⟨g, cap, cur, hv, _⟩
  · have e : out = [] := List.length_eq_zero_iff.1 h0
    subst e
    rw [h1, run_convert_bytes_string w 39 9 5 none 0 0 Tryz.underlying39 Tryz.underlying5 Tryz.underlying9]
    rfl
  · rw [hv]
    refine run_convert_bytes_back w 39 9 5 ⟨g, 0, none⟩ cap out Tryz.underlying39 Tryz.underlying5 Tryz.underlying9 (fun j hj => ?_)
    obtain ⟨g', cap', hv', hc⟩ := h.byte hj
    rw [hv] at hv'
    injection hv' with e1
    injection e1 with e2
    injection e2 with e3
    subst e3
    have e4 : (⟨g, 0, none⟩ : Addr).add j = ⟨g, j, none⟩ := by simp only [Addr.add]; split <;> simp_all
    rw [e4, hc]
    simp [List.getD, hj]

theorem out_any (sp : Nat → Addr) (B rb db : Nat) (K : List Nat) (d out : List UInt8) (w : World) (s : RS) (h : Live sp B rb db K d out w s) :
    Calls Tryz.prog 10 #[.pointer (some ⟨rb, 0, none⟩)] w fun e w' => e = .returned (.string ⟨out.toArray⟩) ∧ w' = w := by
  have c4 := h.rd.c4
  have hc := h.conv
  go_enter Tryz.func10, Tryz.ntmps10
  go_wp2
  go_ret
  exact ⟨rfl, rfl⟩

/-- What is known of it besides. -/
def Fine (d : List UInt8) (lim : Int) : Prop := d.length ≤ 4000 → 0 ≤ lim → lim ≤ 6000 → match Gz.read d lim.toNat with
  | .ok (o, _) => (o.length : Int) ≤ lim
  | .error k => 2 ≤ k ∧ k ≤ 8

/-- What Inflate gives back. -/
def got (r : List UInt8 × Nat × Nat) : Value := .tuple #[.string ⟨r.1.toArray⟩, .int .i64 r.2.1, .int .i64 r.2.2]

set_option maxRecDepth 100000 in
set_option maxHeartbeats 4000000 in
theorem inflate_any (sp : Nat → Addr) (t : ByteArray) (lim : Int) (w : World) (hE : Env sp w) (hB : Blk sp w) (hP : Pow w) :
    Calls Tryz.prog 4 #[.string t, .int .i64 lim] w fun e w' => e = .returned (got (Gz.inflate t.data.toList lim)) ∧ Fr No w w' ∧ Fine t.data.toList lim := by
  have hne := neq_err
  have hnn := neq_nil
  have htl : t.data.toList.length = t.size := by simp
  by_cases h1 : 4000 < t.size
  · have hr : Gz.inflate t.data.toList lim = ([], 0, 1) := by unfold Gz.inflate; rw [if_pos (by omega)]
    rw [hr]
    go_enter Tryz.func4, Tryz.ntmps4
    go_wp2
    go_ret3
    exact ⟨rfl, Fr.refl _ _, fun h => by omega⟩
  by_cases h2 : lim < 0 ∨ 6000 < lim
  · have hr : Gz.inflate t.data.toList lim = ([], 0, 11) := by unfold Gz.inflate; rw [if_neg (by omega), if_pos h2]
    rw [hr]
    go_enter Tryz.func4, Tryz.ntmps4
    rcases h2 with h2 | h2
    · go_wp2
      go_ret3
      exact ⟨rfl, Fr.refl _ _, fun _ h h' => by omega⟩
    · have : ¬ lim < 0 := by omega
      go_wp2
      go_ret3
      exact ⟨rfl, Fr.refl _ _, fun _ h h' => by omega⟩
  · obtain ⟨l, rfl⟩ : ∃ l : Nat, lim = l := ⟨lim.toNat, by omega⟩
    have hr : ∀ r, Gz.read t.data.toList l = r → Gz.inflate t.data.toList (l : Int) = match r with | .ok (o, p) => (o, (p + 7) / 8, 0) | .error k => ([], 0, k) := by
      rintro r rfl
      unfold Gz.inflate; rw [if_neg (by omega), if_neg h2, Int.toNat_natCast]
      cases Gz.read t.data.toList l <;> rfl
    have hl6 : ¬ (6000 : Int) < l := by omega
    have hl0 : ¬ (l : Int) < 0 := by omega
    have hsz := hE.size
    have hal : Fr No w (w.alloc (.cells (fresh l).cells 48)) := (Fr.refl _ _).alloc _
    have hcall := read_any sp w.heap.size w.heap.size l t t.data.toList (w.alloc (.cells (fresh l).cells 48)) rfl (hE.fr hal (fun k _ => no_no k)) (hP.fr hal (by omega) (no_no _)) (alloc_at w _) (by omega) (Nat.le_refl _) (by omega) (by omega)
    have HR := hide hr
    have HC := hide hcall
    have HAL := hide hal
    clear hr hcall hal h2
    go_enter Tryz.func4, Tryz.ntmps4
    go_wp2_with fail
    refine (newReader_any l w).mono ?_
    rintro e w1 ⟨rfl, rfl⟩
    go_wp2_with fail
    refine HC.out.mono ?_
    rintro e w2 ⟨hf2, hres⟩
    have hf : Fr No w w2 := HAL.out.past hf2 (fun k hk e => by have e' : w.heap.size ≤ k := e; omega)
    cases hg : Gz.read t.data.toList l with
    | ok okk =>
      obtain ⟨o, q⟩ := okk
      rw [hg] at hres
      obtain ⟨rfl, hq, hol, db, K', s, hL, hp⟩ := hres
      have HFI : Hid (Fine t.data.toList l) := by unfold Hid; intro _ _ _; rw [Int.toNat_natCast, hg]; show (o.length : Int) ≤ l; omega
      have HG := hide hg
      have HL := hide hL
      have HF := hide hf
      clear hg hL hf hf2
      go_wp2_with fail
      refine (out_any sp _ _ db K' _ o _ s HL.out).mono ?_
      rintro e w' ⟨rfl, rfl⟩
      go_wp2_with fail
      refine (begun_any _ s _ HL.out.rd (by omega)).mono ?_
      rintro e w' ⟨rfl, rfl⟩
      go_wp2
      go_ret3
      refine ⟨?_, HF.out, HFI.out⟩
      rw [HR.out _ HG.out, ← hp]
      rfl
    | error k =>
      rw [hg] at hres
      obtain ⟨hk2, hk8, v, n, rfl, hv⟩ := hres
      have HFI : Hid (Fine t.data.toList l) := by unfold Hid; intro _ _ _; rw [Int.toNat_natCast, hg]; exact ⟨hk2, hk8⟩
      have HR2 : Hid (Gz.inflate t.data.toList (l : Int) = ([], 0, k)) := by exact HR.out _ hg
      have htold := toldAs_any sp w2 v k n (hE.fr hf (fun k _ => no_no k)) (hB.fr hf) hv hk2 hk8
      obtain ⟨ty, p', rfl⟩ := hv.iface
      have HT := hide htold
      have HF := hide hf
      clear hv hg hf hf2 htold
      go_wp2_with fail
      refine HT.out.mono ?_
      rintro e w3 ⟨rfl, hf3⟩
      go_wp2
      go_ret3
      refine ⟨?_, HF.out.trans hf3, HFI.out⟩
      rw [HR2.out]
      rfl
end Go.Proofs.YtobohjjkcdhfeaaGreatDoor
