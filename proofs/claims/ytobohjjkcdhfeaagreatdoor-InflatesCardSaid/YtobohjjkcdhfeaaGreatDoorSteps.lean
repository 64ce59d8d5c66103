import Derived.Test.YtobohjjkcdhfeaaGreatDoorOn
import Derived.Defers
import Derived.Recover
namespace Go.Proofs.YtobohjjkcdhfeaaGreatDoor
open Go.RowKit

theorem m20 : Tryz.prog.underlying 20 = some (.interface (Tryz.prog.methodsAt 20)) := by kernel_rfl
theorem eql_any (u : TypeId) (x : Value) (w : World) : (binOp .eql 20 (.iface u x) .nilIface).run Tryz.prog w = .ok (.bool false) w := run_eql_held_nil _ 20 u x m20
theorem eql_nil (w : World) : (binOp .eql 20 .nilIface .nilIface).run Tryz.prog w = .ok (.bool true) w := run_eql_nil_nil _ 20 m20

theorem wp_monoQ {P : Program} {c : Code} {Q Q' : Exit → Act → World → Prop} {a : Act} {w : World} (h : c.wp P Q a w) (hq : ∀ e a w, Q e a w → Q' e a w) : c.wp P Q' a w :=
  fun b k cs => let ⟨e, a', w', q, r⟩ := h b k cs; ⟨e, a', w', hq _ _ _ q, r⟩

theorem postS {P : Program} {fn : Func} {c₀ : Frame} {cs : List Frame} {u' : FrameMode} {R : Ending → FrameMode → World → Prop} {R' : Ending → World → Prop} (hR : ∀ e w, R' e w → R e u' w) :
    ∀ e a w, bodyPost P fn R' e a w → bodyPostS P fn c₀ cs R e a ({ c₀ with mode := u' } :: cs) w := by
  intro e a w h
  cases e with
  | normal => obtain ⟨h1, v, h2, h3⟩ := h; exact ⟨h1, u', rfl, v, h2, hR _ _ h3⟩
  | ret => obtain ⟨h1, v, h2, h3⟩ := h; exact ⟨h1, u', rfl, v, h2, hR _ _ h3⟩
  | panic ch => obtain ⟨h1, h3⟩ := h; exact ⟨h1, u', rfl, hR _ _ h3⟩
  | outgrown => exact ⟨u', hR _ _ h⟩
  | exit i => exact h.elim
  | goto l => exact h.elim

set_option maxHeartbeats 400000 in
theorem catch_idle (rx eb : Nat) (w : World) :
    CallsD Tryz.prog 20 #[.pointer (some ⟨rx, 0, none⟩), .pointer (some ⟨eb, 0, none⟩)] .returning w fun e u' w' => e = .returned (.tuple #[]) ∧ u' = .returning ∧ w' = w := by
  have he := eql_nil
  refine callsD_of_wpS Tryz.func20 rfl fun c₀ cs hu => ?_
  simp only [Tryz.ntmps20, List.size_toArray, List.length_cons, List.length_nil, Nat.reduceAdd, Nat.reduceSub, Array.replicate_succ, Array.replicate_zero, List.push_toArray, List.append_toArray, List.nil_append, List.cons_append]
  apply wpS_seq
  apply wpS_region
  simp [wpOpsS, go_sem, recoverD, hu, Exit.thenS]
  refine wpS_of_wp ?_
  have hc : c₀ :: cs = { c₀ with mode := .returning } :: cs := by rw [← hu]
  rw [hc]
  refine wp_monoQ (Q := bodyPost Tryz.prog Tryz.f20 (fun e w' => e = .returned (.tuple #[]) ∧ w' = w)) ?_ (postS (fun e w' h => ⟨h.1, rfl, h.2⟩))
  clear hc
  go_wp2
  first | go_end0 | refine bodyPost_ret (results_none rfl _ _ _) rfl ?_
  exact ⟨rfl, rfl⟩

theorem run_assert (x : Value) (w : World) : (Instr.typeAssert (.iface 54 x) 20 54 true).run Tryz.prog w = .ok (.tuple #[x, .bool true]) w := by
  simp [Instr.typeAssert, run_underlying Tryz.underlying54]

set_option maxRecDepth 100000 in
set_option maxHeartbeats 800000 in
theorem catch_short (rx eb rb p : Nat) (s : RS) (ev : Value) (w : World) (hbx : w.heap[rx]? = some (.cells #[.pointer (some ⟨rb, 0, none⟩)] 29 (0, 0))) (hbe : w.heap[eb]? = some (.cells #[ev] 32 (0, 0))) (hr : Rd w rb s) (hne : eb ≠ rb) :
    CallsD Tryz.prog 20 #[.pointer (some ⟨rx, 0, none⟩), .pointer (some ⟨eb, 0, none⟩)] (.panicking [{ v := .iface 54 (.pointer (some ⟨p, 0, none⟩)), recovered := false }]) w fun e u' w' =>
      e = .returned (.tuple #[]) ∧ u' = .panicking [{ v := .iface 54 (.pointer (some ⟨p, 0, none⟩)), recovered := true }] ∧ w'.heap[eb]? = some (.cells #[.iface 54 (.pointer (some ⟨p, 0, none⟩))] 32 (0, 0)) ∧ Rd w' rb { s with pos := capB s.bg } ∧ Fr (fun k => k = rb ∨ k = eb) w w' := by
  have hx : w.cell? ⟨rx, 0, none⟩ = some (.pointer (some ⟨rb, 0, none⟩)) := by rw [cell_of hbx]; rfl
  have he : w.cell? ⟨eb, 0, none⟩ = some ev := by rw [cell_of hbe]; rfl
  have hz := frozen_of hbe 0
  have HBE := hide hbe
  clear hbx hbe
  have he1 := eql_any
  have hta := run_assert
  have k1 := hr.c1
  have k2 := hr.c2
  have f1 := hr.fz 1
  have hnot : ∀ (x : Bool) (w : World), (Op.unary .not (.bool x)).run Tryz.prog w = .ok (.bool (!x)) w := fun _ _ => rfl
  refine callsD_of_wpS Tryz.func20 rfl fun c₀ cs hu => ?_
  simp only [Tryz.ntmps20, List.size_toArray, List.length_cons, List.length_nil, Nat.reduceAdd, Nat.reduceSub, Array.replicate_succ, Array.replicate_zero, List.push_toArray, List.append_toArray, List.nil_append, List.cons_append]
  apply wpS_seq
  apply wpS_region
  simp [wpOpsS, go_sem, recoverD, hu, Exit.thenS]
  refine wpS_of_wp ?_
  refine wp_monoQ (Q := bodyPost Tryz.prog Tryz.f20 (fun e w' => e = .returned (.tuple #[]) ∧ w'.heap[eb]? = some (.cells #[.iface 54 (.pointer (some ⟨p, 0, none⟩))] 32 (0, 0)) ∧ Rd w' rb { s with pos := capB s.bg } ∧ Fr (fun k => k = rb ∨ k = eb) w w')) ?_ (postS (fun e w' h => ⟨h.1, rfl, h.2⟩))
  go_wp2
  go_region
  all_goals
    go_wp2
    first | go_end0 | refine bodyPost_ret (results_none rfl _ _ _) rfl ?_
    refine ⟨rfl, ?_, ?_, ?_⟩
    · have h1 : (w.setCell ⟨rb, 1, none⟩ (.int .i64 (capB s.bg))).heap[eb]? = some (.cells #[ev] 32 (0, 0)) := by rw [set_other _ _ hne]; exact HBE.out
      exact set_of h1 0 _
    · have h1 : Rd (w.setCell ⟨rb, 1, none⟩ (.int .i64 (capB s.bg))) rb { s with pos := capB s.bg } := hr.s1 _ _ rfl
      show ((w.setCell ⟨rb, 1, none⟩ (.int .i64 (capB s.bg))).setCell ⟨eb, 0, none⟩ _).heap[rb]? = _
      rw [set_other _ _ (fun e => hne e.symm)]; exact h1
    · exact (((Fr.refl _ _).setCell (fun _ => Or.inl rfl) _).setCell (fun _ => Or.inr rfl) _).drew

theorem syms_more {d : List UInt8} {t : Gz.Table} {lim p q : Nat} {out o : List UInt8} (h : Gz.syms d t lim out p = .ok (o, q)) (hp : p ≤ 8 * d.length) : p < q ∧ q ≤ 8 * d.length := by
  have key : ∀ (out : List UInt8) (x : Nat) (z : List UInt8 ⊕ List UInt8) (y : Nat), x ≤ 8 * d.length → Gz.symsStep d t lim out x = .ok (z, y) → x < y ∧ y ≤ 8 * d.length := by
    intro out x z y hx hst
    unfold Gz.symsStep at hst
    cases hs : Gz.sym d t.syms x with
    | error k => rw [hs] at hst; cases hst
    | ok okk =>
      obtain ⟨sy, p1⟩ := okk
      have h1 := sym_ok hs
      rw [hs] at hst
      simp only [Gz.Out.bind] at hst
      cases ho : Gz.obey d t lim sy out p1 with
      | error k => rw [ho] at hst; cases hst
      | ok okk =>
        obtain ⟨v, p2⟩ := okk
        have h2 := obey_ok ho h1.2
        rw [ho] at hst
        injection hst with hpp; injection hpp with _ h3; omega
  unfold Gz.syms at h
  rw [Gz.iter_eq] at h
  cases hst : Gz.symsStep d t lim out p with
  | error k => rw [hst] at h; cases h
  | ok okk =>
    obtain ⟨z, y⟩ := okk
    have hk := key out p z y hp hst
    rw [hst] at h
    cases z with
    | inr r => injection h with hpp; injection hpp with _ h2; omega
    | inl o2 =>
      simp only at h
      rw [if_pos hk] at h
      have := iter_inv (P := fun _ x => y ≤ x ∧ x ≤ 8 * d.length) (R := fun _ x => y ≤ x ∧ x ≤ 8 * d.length)
        (fun s x s' q hx hst => by have := key s x _ q hx.2 hst; omega) (fun s x r q hx hst => by have := key s x _ q hx.2 hst; omega) (8 * d.length) o2 y (by omega) ⟨Nat.le_refl _, hk.2⟩ o q h
      omega

theorem stored_more {d : List UInt8} {lim p q : Nat} {out o : List UInt8} (h : Gz.stored d lim out p = .ok (o, q)) : p < q ∧ q ≤ 8 * d.length := by
  unfold Gz.stored at h
  cases h1 : Gz.num d 16 (8 * ((p + 7) / 8)) with
  | error k => rw [h1] at h; cases h
  | ok okk =>
    obtain ⟨n, p1⟩ := okk
    have e1 := num_ok h1
    rw [h1] at h
    simp only [Gz.Out.bind] at h
    cases h2 : Gz.num d 16 p1 with
    | error k => rw [h2] at h; cases h
    | ok okk =>
      obtain ⟨m, p2⟩ := okk
      have e2 := num_ok h2
      rw [h2] at h
      simp only at h
      split at h
      · cases h
      · have := bytes_ok h e2.2; omega

theorem goOn_more {d : List UInt8} {lim p q : Nat} {st : Gz.St} {x : Gz.St ⊕ List UInt8} (h : Gz.goOn d lim st p = .ok (x, q)) (hp : p ≤ 8 * d.length) (hf : st.place ≠ .inl (true, true)) : p < q ∧ q ≤ 8 * d.length := by
  obtain ⟨place, last, out⟩ := st
  rcases place with ⟨⟨⟩ | ⟨⟩, ⟨⟩ | ⟨⟩⟩ | t
  rotate_left 3
  · exact absurd rfl hf
  rotate_left 1
  · skip
    unfold Gz.goOn at h
    simp only at h
    cases h1 : Gz.num d 1 p with
    | error k => rw [h1] at h; cases h
    | ok okk =>
      obtain ⟨a, p1⟩ := okk
      have e1 := num_ok h1
      rw [h1] at h
      simp only [Gz.Out.bind] at h
      cases h2 : Gz.num d 2 p1 with
      | error k => rw [h2] at h; cases h
      | ok okk =>
        obtain ⟨k, p2⟩ := okk
        have e2 := num_ok h2
        rw [h2] at h
        simp only at h
        split at h
        · injection h with hpp; injection hpp with _ h3; omega
        · split at h
          · injection h with hpp; injection hpp with _ h3; omega
          · split at h
            · injection h with hpp; injection hpp with _ h3; omega
            · cases h
  · skip
    unfold Gz.goOn at h
    simp only at h
    cases h1 : Gz.stored d lim out p with
    | error k => rw [h1] at h; cases h
    | ok okk => obtain ⟨o, p1⟩ := okk; have e1 := stored_more h1; rw [h1] at h; injection h with hpp; injection hpp with _ h3; omega
  · skip
    unfold Gz.goOn at h
    simp only at h
    cases h1 : Gz.codes d p with
    | error k => rw [h1] at h; cases h
    | ok okk =>
      obtain ⟨t, p1⟩ := okk
      have e1 := codes_more h1
      rw [h1] at h
      simp only [Gz.Out.bind] at h
      cases h2 : Gz.syms d t lim out p1 with
      | error k => rw [h2] at h; cases h
      | ok okk => obtain ⟨o, p2⟩ := okk; have e2 := syms_more h2 e1.2; rw [h2] at h; injection h with hpp; injection hpp with _ h3; omega
  · skip
    unfold Gz.goOn at h
    simp only at h
    cases h1 : Gz.syms d t lim out p with
    | error k => rw [h1] at h; cases h
    | ok okk => obtain ⟨o, p1⟩ := okk; have e1 := syms_more h1 hp; rw [h1] at h; injection h with hpp; injection hpp with _ h3; omega

/-- How the steps come to their end. -/
def RanS (sp : Nat → Addr) (B rb db : Nat) (K : List Nat) (d : List UInt8) (lim : Nat) (w : World) (r : Gz.Out (List UInt8)) (e : Ending) (w' : World) : Prop :=
  Fr (Own B K) w w' ∧ match r with
  | .ok (o, q) => e = .returned .nilIface ∧ q ≤ 8 * d.length ∧ ∃ K' s, Live sp B rb db K' d o w' s ∧ s.pos = q ∧ s.lim = lim
  | .error k => 2 ≤ k ∧ k ≤ 8 ∧ (∃ s', Rd w' rb s') ∧ ∃ v n, e = .returned v ∧ Err sp w' v k n

theorem setCell_self {w : World} {b i : Nat} {c : Array Value} {t : TypeId} {z : Nat × Nat} {v : Value} (h : w.heap[b]? = some (.cells c t z)) (hv : c[i]? = some v) : w.setCell ⟨b, i, none⟩ v = w := by
  have hc : c.setIfInBounds i v = c := by
    apply Array.ext_getElem?
    intro j
    rw [Array.getElem?_setIfInBounds]
    split
    · rename_i e; subst e
      rw [hv]
      have : i < c.size := (Array.getElem?_eq_some_iff.1 hv).1
      simp [this]
    · rfl
  have hh : (w.setCell ⟨b, i, none⟩ v).heap = w.heap := by
    apply Array.ext_getElem?
    intro k
    by_cases e : k = b
    · subst e; rw [set_of h, hc, h]
    · rw [set_other _ _ e]
  cases w
  simp only [World.setCell] at hh ⊢
  simp only [hh]

/-- An error's blocks are none of another type. -/
theorem Err.frCell {sp : Nat → Addr} {w : World} {b i : Nat} {c : Array Value} {t : TypeId} {u v : Value} {k n : Nat} (h : Err sp w v k n) (hb : w.heap[b]? = some (.cells c t (0, 0))) (h1 : t ≠ 150) (h2 : t ≠ 53) : Err sp (w.setCell ⟨b, i, none⟩ u) v k n := by
  have hf : Fr (One b) w (w.setCell ⟨b, i, none⟩ u) := (Fr.refl _ _).setCell (fun _ => one_self b) _
  induction h using Err.ways with
  | sent k h3 h8 => exact .sent k h3 h8
  | short p n h => exact .short p n (hf.at h (fun e => by have e' : p = b := e; subst e'; rw [h] at hb; simp at hb; exact h1 hb.2.symm))
  | fault p t' v k n h _ ih => exact .fault p t' v k n (hf.at h (fun e => by have e' : p = b := e; subst e'; rw [h] at hb; simp at hb; exact h2 hb.2.symm)) ih

theorem res14 {tmps : Array Value} {w : World} {b : Nat} {v : Value} (h2 : tmps.getD 2 undef = .pointer (some ⟨b, 0, none⟩)) (hc : w.cell? ⟨b, 0, none⟩ = some v) : (results Tryz.f14 tmps).run Tryz.prog w = .ok v w := by
  have h2' : tmps[2]?.getD undef = .pointer (some ⟨b, 0, none⟩) := by simpa using h2
  simp [results, Tryz.results14, h2', asAddr, loadVar, isAgg, run_underlying Tryz.underlying32, go_sem, hc]

set_option maxRecDepth 100000 in
set_option maxHeartbeats 1600000 in
theorem steps_any (sp : Nat → Addr) (B rb db : Nat) (K : List Nat) (s : RS) (d : List UInt8) (w : World) (st : Gz.St) (hS : Stands sp B rb db d w st K s) (hpos : s.pos ≤ 8 * d.length) :
    Calls Tryz.prog 14 #[.pointer (some ⟨rb, 0, none⟩)] w (RanS sp B rb db K d s.lim w (Gz.iter (8 * d.length) (Gz.goOn d s.lim) st s.pos)) := by
  have hmf : ∀ (fn : Fn) (first cap : Array Value) (w : World), (Instr.makeFunc fn first cap).run Tryz.prog w = .ok (.func fn first cap) w := fun _ _ _ _ => rfl
  have hne := neq_err
  have hnn := neq_nil
  go_enter_defers Tryz.func14, Tryz.ntmps14
  go_wp2_with fail
  have hL0 := hS.live
  have hf0 : Fr (One rb) w ((w.alloc (.cells #[.pointer (some ⟨rb, 0, none⟩)] 29)).alloc (.cells #[.nilIface] 32)) := ((Fr.refl _ _).alloc _).alloc _
  have hr0 : Rd ((w.alloc (.cells #[.pointer (some ⟨rb, 0, none⟩)] 29)).alloc (.cells #[.nilIface] 32)) rb s := (hL0.rd.alloc _).alloc _
  have hx0 : ((w.alloc (.cells #[.pointer (some ⟨rb, 0, none⟩)] 29)).alloc (.cells #[.nilIface] 32)).heap[w.heap.size]? = some (.cells #[.pointer (some ⟨rb, 0, none⟩)] 29 (0, 0)) := alloc_old (alloc_at w _)
  have he0 : ((w.alloc (.cells #[.pointer (some ⟨rb, 0, none⟩)] 29)).alloc (.cells #[.nilIface] 32)).heap[w.heap.size + 1]? = some (.cells #[.nilIface] 32 (0, 0)) := by
    have := alloc_at (w.alloc (.cells #[.pointer (some ⟨rb, 0, none⟩)] 29)) (.cells #[.nilIface] 32)
    rwa [World.size_alloc] at this
  have hL1 := hL0.grow (hL0.of hf0 hr0 rfl rfl rfl) rfl [w.heap.size, w.heap.size + 1] (by
    intro k hk
    simp only [List.mem_cons, List.not_mem_nil, or_false] at hk
    rw [World.size_alloc, World.size_alloc]
    rcases hk with rfl | rfl <;> omega)
  have hS1 : Stands sp B rb db d ((w.alloc (.cells #[.pointer (some ⟨rb, 0, none⟩)] 29)).alloc (.cells #[.nilIface] 32)) st ([w.heap.size, w.heap.size + 1] ++ K) s := by
    refine ⟨hL1, hS.la, ?_⟩
    have hat := hS.at'
    rcases hpl : st.place with ⟨⟨⟩ | ⟨⟩, ⟨⟩ | ⟨⟩⟩ | t
    · rw [hpl] at hat; exact hat
    · rw [hpl] at hat; exact hat
    · rw [hpl] at hat; exact hat
    · rw [hpl] at hat; exact hat
    ·
      rw [hpl] at hat
      obtain ⟨h1, tb, s1, s2, hT, htb⟩ := hat
      have hT' := hT.fr (hL0.one hf0)
      exact ⟨h1, tb, s1, s2, ⟨hT'.syms, hT'.dists, hT'.g1, hT'.g2, List.mem_append_right _ hT'.k0, List.mem_append_right _ hT'.k1, List.mem_append_right _ hT'.k2⟩, htb⟩
  have HX0 := hide hx0
  have HE0 := hide he0
  have HF0 := hide hf0
  have HS1 := hide hS1
  have hrlt := hL0.rd.lt
  have hBw := hL0.bsz
  clear hx0 he0 hf0 hS1 hL1 hr0
  go_loopw [] (fun wr => ∃ (st' : Gz.St) (K' : List Nat) (s' : RS), (∀ k, k ∈ K → k ∈ K') ∧ w.heap.size ∈ K' ∧ (w.heap.size + 1) ∈ K' ∧ Stands sp B rb db d wr st' K' s' ∧ s'.pos ≤ 8 * d.length ∧ s'.lim = s.lim ∧ Gz.iter (8 * d.length) (Gz.goOn d s.lim) st' s'.pos = Gz.iter (8 * d.length) (Gz.goOn d s.lim) st s.pos ∧
      wr.heap[w.heap.size]? = some (.cells #[.pointer (some ⟨rb, 0, none⟩)] 29 (0, 0)) ∧ wr.heap[w.heap.size + 1]? = some (.cells #[.nilIface] 32 (0, 0)) ∧ Fr (Own B K) w wr) (fun wr => 8 * d.length - posOf rb wr)
  case atStart => exact ⟨st, _, s, fun _ h => List.mem_append_right _ h, by simp, by simp, HS1.out, hpos, rfl, rfl, HX0.out, HE0.out, hL0.one HF0.out⟩
  case round =>
    obtain ⟨st', K', s', hKK, hk1, hk2, hSr, hp, hlim, hgo, hbx, hbe, hfr⟩ := hrel
    have HGO := hide hgo
    have HBX := hide hbx
    have HBE := hide hbe
    have cx : wr.cell? ⟨w.heap.size, 0, none⟩ = some (.pointer (some ⟨rb, 0, none⟩)) := by rw [cell_of hbx]; rfl
    have ce : wr.cell? ⟨w.heap.size + 1, 0, none⟩ = some .nilIface := by rw [cell_of hbe]; rfl
    have fe := frozen_of hbe 0
    have k5 := hSr.live.rd.c5
    have HLIM := hide hlim
    clear hgo hbx hbe hlim
    by_cases hfin : st'.place = .inl (true, true)
    · have h5 : s'.pl = 5 := by have := hSr.at'; rw [hfin] at this; exact this
      rw [h5] at k5
      have k5 : wr.cell? ⟨rb, 5, none⟩ = some (.int .i64 5) := k5
      have HD : Hid (Gz.iter (8 * d.length) (Gz.goOn d s.lim) st s.pos = .ok (st'.out, s'.pos)) := by
        unfold Hid; rw [← HGO.out]; exact iter_end (by unfold Gz.goOn; rw [hfin])
      clear hfin h5
      go_wp2
      refine leaves_cons (f := 20) (args := #[.pointer (some ⟨w.heap.size, 0, none⟩), .pointer (some ⟨w.heap.size + 1, 0, none⟩)]) (by simp) (by simp [go_sem]) ?_
      refine (catch_idle w.heap.size (w.heap.size + 1) _).mono ?_
      rintro e u' w'' ⟨rfl, rfl, rfl⟩
      have hb2 := set_of HBE.out 0 .nilIface
      refine ⟨_, res14 rfl (by rw [cell_of hb2]; rfl), ?_⟩
      have hf2 : Fr No wr (wr.setCell ⟨w.heap.size + 1, 0, none⟩ .nilIface) := by
        have : wr.setCell ⟨w.heap.size + 1, 0, none⟩ .nilIface = wr := setCell_self HBE.out rfl
        rw [this]; exact Fr.refl _ _
      refine ⟨hfr.trans hf2.of_no, ?_⟩
      rw [HD.out]
      exact ⟨rfl, hp, K', s', hSr.live.of hf2.of_no (hSr.live.rd.fr hf2 (no_no _)) rfl rfl rfl, rfl, HLIM.out⟩
    · have hne5 : s'.pl ≠ 5 := by
        have := hSr.at'
        rcases hpl : st'.place with ⟨⟨⟩ | ⟨⟩, ⟨⟩ | ⟨⟩⟩ | t
        · rw [hpl] at this; have h : s'.pl = 0 := this; omega
        · rw [hpl] at this; have h : s'.pl = 1 := this; omega
        · rw [hpl] at this; have h : s'.pl = 3 := this; omega
        · exact absurd hpl hfin
        · rw [hpl] at this; have h : s'.pl = 4 := this.1; omega
      have hb5 : ((s'.pl : Int) != 5) = true := by rw [bne_iff_ne]; omega
      have hps : posOf rb wr = s'.pos := hSr.live.rd.posOf
      have HPS := hide hps
      clear hps
      go_wp2_with fail
      refine (goOn_any sp B rb db K' s' d _ st' hSr hp hfin).mono ?_
      rintro e w1 ⟨hf1, hres⟩
      have hbx1 := hf1.at HBX.out (fun e => e.2 hk1)
      have hbe1 := hf1.at HBE.out (fun e => e.2 hk2)
      have hfw : Fr (Own B K) w w1 := hfr.trans (hf1.up hKK)
      have cx1 : w1.cell? ⟨w.heap.size, 0, none⟩ = some (.pointer (some ⟨rb, 0, none⟩)) := by rw [cell_of hbx1]; rfl
      have ce1 : w1.cell? ⟨w.heap.size + 1, 0, none⟩ = some .nilIface := by rw [cell_of hbe1]; rfl
      have fe1 := frozen_of hbe1 0
      have HBX1 := hide hbx1
      have HBE1 := hide hbe1
      clear hbx1 hbe1
      cases hg : Gz.goOn d s.lim st' s'.pos with
      | ok okk =>
        obtain ⟨x, q⟩ := okk
        have hmore := goOn_more hg hp hfin
        have HG := hide hg
        rw [HLIM.out, hg] at hres
        clear hg
        obtain ⟨rfl, st2, K2, s2, rfl, hKK2, hS2, hs2p, hs2l⟩ := hres
        have HP2 := hide hs2p
        have HL2 := hide hs2l
        clear hs2p hs2l
        go_wp2
        refine ⟨⟨st2, K2, s2, fun k h => hKK2 k (hKK k h), hKK2 _ hk1, hKK2 _ hk2, hS2, by rw [HP2.out]; exact hmore.2, HL2.out.trans rfl, ?_, HBX1.out, HBE1.out, hfw⟩, ?_⟩
        · rw [HP2.out, ← HGO.out]; exact (iter_more HG.out hmore.1 hmore.2).symm
        · have e1 : posOf rb w1 = s2.pos := hS2.live.rd.posOf
          have e0 := HPS.out
          rw [HP2.out] at e1
          omega
      | error k =>
        have HD : Hid (Gz.iter (8 * d.length) (Gz.goOn d s.lim) st s.pos = .error k) := by
          unfold Hid; rw [← HGO.out]; exact iter_bad hg
        rw [HLIM.out, hg] at hres
        clear hg
        obtain ⟨⟨s2, hr2⟩, ⟨rfl, p', m, rfl, hp'⟩ | ⟨h3, h8', v, m, rfl, hv⟩⟩ := hres
        · go_wp2
          refine leaves_cons (f := 20) (args := #[.pointer (some ⟨w.heap.size, 0, none⟩), .pointer (some ⟨w.heap.size + 1, 0, none⟩)]) (by simp) (by simp [go_sem]) ?_
          refine (catch_short w.heap.size (w.heap.size + 1) rb p' s2 .nilIface _ HBX1.out HBE1.out hr2 (by omega)).mono ?_
          rintro e u' w2 ⟨rfl, rfl, hbe2, hr3, hf2⟩
          refine ⟨_, res14 rfl (by rw [cell_of hbe2]; rfl), ?_⟩
          have hf2' : Fr (Own B K) w w2 := by
            refine ⟨hf2.os.trans hfw.os, hf2.tape.trans hfw.tape, hf2.output.trans hfw.output, Nat.le_trans hfw.size hf2.size, fun k hk hs => ?_⟩
            have hsz := hfw.size
            rw [hf2.block k (by omega) (fun e => ?_)]
            · exact hfw.block k hk hs
            · rcases e with e | e
              · subst e; exact hs ⟨hL0.brb, hL0.rbK⟩
              · omega
          refine ⟨hf2', ?_⟩
          rw [HD.out]
          refine ⟨by omega, by omega, ⟨_, hr3⟩, _, 0, rfl, .short p' m (hf2.at hp' (fun e => ?_))⟩
          rcases e with e | e
          · subst e; have h := hr2; unfold Rd at h; rw [hp'] at h; simp at h
          · subst e; have h := HBE1.out; rw [hp'] at h; simp at h
        · obtain ⟨ty, p', rfl⟩ := hv.iface
          go_wp2
          refine leaves_cons (f := 20) (args := #[.pointer (some ⟨w.heap.size, 0, none⟩), .pointer (some ⟨w.heap.size + 1, 0, none⟩)]) (by simp) (by simp [go_sem]) ?_
          refine (catch_idle w.heap.size (w.heap.size + 1) _).mono ?_
          rintro e u' w'' ⟨rfl, rfl, rfl⟩
          have hb2 := set_of HBE1.out 0 (.iface ty (.pointer (some p')))
          refine ⟨_, res14 rfl (by rw [cell_of hb2]; rfl), ?_⟩
          have hf2 : Fr (One (w.heap.size + 1)) w1 (w1.setCell ⟨w.heap.size + 1, 0, none⟩ (.iface ty (.pointer (some p')))) := (Fr.refl _ _).setCell (fun _ => one_self (w.heap.size + 1)) _
          refine ⟨hfw.setCell (fun e => by have e' : w.heap.size + 1 < w.heap.size := e; omega) _, ?_⟩
          rw [HD.out]
          refine ⟨by omega, h8', ⟨s2, hr2.fr hf2 (one_ne (by omega))⟩, _, m, rfl, hv.frCell HBE1.out (by decide) (by decide)⟩
end Go.Proofs.YtobohjjkcdhfeaaGreatDoor
