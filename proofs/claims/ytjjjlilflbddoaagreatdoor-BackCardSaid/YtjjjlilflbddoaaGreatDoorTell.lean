import Derived.Test.YtjjjlilflbddoaaGreatDoorGFix
namespace Go.Proofs.YtjjjlilflbddoaaGreatDoor
open Go.RowKit

/-- A code's cells, all zero. -/
def zeroCode : Array Value := CC (List.replicate 16 0) (.slice none 0 0) 0

/-- How tellingCode comes to its end. -/
def RanC (sp : Nat → Addr) (w : World) (rb : Nat) (s : RS) (r : Gz.Out Gz.Code) (e : Ending) (w' : World) : Prop :=
  Fr (One rb) w w' ∧ match r with
  | .ok (c, q) => ∃ sb, w.heap.size ≤ sb ∧ e = .returned (.tuple #[.agg (CC c.count (.slice (some ⟨sb, 0, none⟩) c.symbols.length c.symbols.length) c.longest), .nilIface]) ∧ w'.heap[sb]? = some (.cells (ivs c.symbols) 3 (0, 0)) ∧ Good c ∧ (∀ j, c.symbols.getD j 0 < 19) ∧ Rd w' rb { s with pos := q }
  | .error k => (∃ q, Rd w' rb { s with pos := q }) ∧ ((k = 2 ∧ ShortP w' e) ∨ (3 ≤ k ∧ k ≤ 8 ∧ ∃ v n, e = .returned (.tuple #[.agg zeroCode, v]) ∧ Err sp w' v k n))

/-- Behind the round's store. -/
theorem tell_cut {w wr w1 : World} {rb p od x : Nat} {ls : List Nat} {s : RS} (hL : wr.heap[w.heap.size + 1]? = some (.cells (uvs ls) 227 (0, 0))) (hR : wr.heap[w.heap.size]? = some (.cells (CC (List.replicate 16 0) (.slice none 0 0) 0) 195 (0, 0)))
    (hfr : Fr (One rb) w wr) (hf1 : Fr (One rb) wr w1) (hr1 : Rd w1 rb { s with pos := p }) (h1 : rb < w.heap.size) (hls : ls.length = 19) :
    Rd (w1.setCell ⟨w.heap.size + 1, od, none⟩ (.int .u8 (x : Nat))) rb { s with pos := p } ∧ (w1.setCell ⟨w.heap.size + 1, od, none⟩ (.int .u8 (x : Nat))).heap[w.heap.size + 1]? = some (.cells (uvs (ls.set od x)) 227 (0, 0)) ∧
      (w1.setCell ⟨w.heap.size + 1, od, none⟩ (.int .u8 (x : Nat))).heap[w.heap.size]? = some (.cells (CC (List.replicate 16 0) (.slice none 0 0) 0) 195 (0, 0)) ∧ Fr (One rb) w (w1.setCell ⟨w.heap.size + 1, od, none⟩ (.int .u8 (x : Nat))) ∧ (ls.set od x).length = 19 := by
  have hL1 := hf1.at hL (one_ne (by omega))
  refine ⟨?_, ?_, ?_, (hfr.trans hf1).setCell (fun e => by have e' : w.heap.size + 1 < w.heap.size := e; omega) _, by simpa using hls⟩
  · refine ⟨?_, hr1.2⟩
    rw [set_other _ _ (by omega)]; exact hr1.1
  · rw [set_of hL1, uvs_set]
  · rw [set_other _ _ (by omega)]; exact hf1.at hR (one_ne (by omega))

theorem two_res {tmps : Array Value} {w : World} {b : Nat} {a v : Value} (h4 : tmps.getD 4 undef = .pointer (some ⟨b, 0, none⟩)) (h5 : tmps.getD 5 undef = v) (h : (loadVar 195 ⟨b, 0, none⟩).run Tryz.prog w = .ok a w) :
    (results Tryz.f114 tmps).run Tryz.prog w = .ok (.tuple #[a, v]) w := by
  rw [results_cell_tmp (p := 4) (u := 5) (ty := 195) rfl, h4, h5]
  simp [asAddr, h]

theorem Fr.setRow {S : Nat → Prop} {a w : World} {g : Nat} {cs : Array Value} (h : Fr S a w) (hg : a.heap.size ≤ g) : Fr S a (w.setRow g cs) :=
  ⟨h.os, h.tape, h.output, by rw [size_setRow]; exact h.size, fun k hk hs => by rw [setRow_other _ _ _ _ (by omega)]; exact h.block k hk hs⟩
theorem Rd.setRow {w : World} {rb g : Nat} {s : RS} {cs : Array Value} (h : Rd w rb s) (hg : rb ≠ g) : Rd (w.setRow g cs) rb s := by
  refine ⟨?_, h.2⟩
  rw [setRow_other _ _ _ _ hg]; exact h.1

theorem alloc_setRow_at (w : World) (g : Nat) (cs : Array Value) (o : Obj) : ((w.setRow g cs).alloc o).heap[w.heap.size]? = some o := by
  have := alloc_at (w.setRow g cs) o
  rwa [size_setRow] at this
set_option maxRecDepth 100000 in
set_option maxHeartbeats 3200000 in
theorem tellingCode_any (sp : Nat → Addr) (rb db n : Nat) (s : RS) (d : List UInt8) (w : World) (hn : d.length ≤ 4000) (hdb : db ≠ rb) (h13 : 16 ≤ rb) (_hdl : db < w.heap.size)
    (hE : Env sp w) (hr : Rd w rb s) (hd : Dat w db s.dv d) (hn19 : n ≤ 19) :
    Calls Tryz.prog 114 #[.pointer (some ⟨rb, 0, none⟩), .int .i64 n] w (RanC sp w rb s (Gz.telling d n s.pos)) := by
  have hrl := hr.lt
  have hnot : ∀ (x : Bool) (w : World), (Op.unary .not (.bool x)).run Tryz.prog w = .ok (.bool (!x)) w := fun _ _ => rfl
  go_enter Tryz.func114, Tryz.ntmps114
  go_wp2_with fail
  go_loopw [9] (fun i wr => ∃ (k p : Nat) (ls : List Nat), k ≤ n ∧ i = .int .i64 k ∧ Gz.tellGo d (n - k) k ls p = Gz.tellGo d n 0 (List.replicate 19 0) s.pos ∧ Lens ls ∧ ls.length = 19 ∧ Rd wr rb { s with pos := p } ∧ wr.heap[w.heap.size + 1]? = some (.cells (uvs ls) 227 (0, 0)) ∧ wr.heap[w.heap.size]? = some (.cells (CC (List.replicate 16 0) (.slice none 0 0) 0) 195 (0, 0)) ∧ Fr (One rb) w wr) (fun i _ => n - (intOf i).toNat)
  case atStart => exact ⟨0, s.pos, List.replicate 19 0, Nat.zero_le _, rfl, rfl, (fun i hi => by rw [List.getD, List.getElem?_replicate]; split <;> simp), by simp, (hr.alloc _).alloc _, by rw [show w.heap.size + 1 = (w.alloc (.cells (CC (List.replicate 16 0) (.slice none 0 0) 0) 195)).heap.size by simp]; exact alloc_at _ _, alloc_old (alloc_at w _), ((Fr.refl _ _).alloc _).alloc _⟩
  case round =>
    obtain ⟨k, p, ls, hk, rfl, hgo, hls, hlsl, hrr, hL, hR0, hfr⟩ := hrel
    have HGO := hide hgo
    have HL := hide hL
    have HR0 := hide hR0
    have hd2 := hd.fr hfr (one_ne hdb)
    have hE2 := hE.fr hfr (fun k hk => one_ne (by omega))
    clear hgo
    by_cases hkn : k < n
    · obtain ⟨od, hod⟩ : ∃ od, od = Gz.order.getD k 0 := ⟨_, rfl⟩
      have hod19 := order_le k (by omega)
      rw [← hod] at hod19
      have htell := hE2.tell k (by omega)
      rw [← hod] at htell
      have HOR := hide hod
      clear hod
      have hodz : (od : Int) < 19 := by omega
      have hkz : (k : Int) < 19 := by omega
      have HT : Hid (Gz.tellGo d n 0 (List.replicate 19 0) s.pos = (Gz.num d 3 p).bind fun v p1 => Gz.tellGo d (n - (k + 1)) (k + 1) (ls.set od v) p1) := by
        unfold Hid; rw [← HGO.out, show n - k = (n - (k + 1)) + 1 by omega, HOR.out]; rfl
      have colds := (cell_of hL od).trans (uvs_get (by omega))
      have folds := frozen_of hL od
      clear hL hR0
      by_cases hl : p + 3 ≤ 8 * d.length
      · have hv8 := val_lt d p 3
        have hw8 : IntKind.u8.wrap (Gz.val d p 3 : Int) = (Gz.val d p 3 : Int) := by rw [IntKind.wrap_u8]; omega
        go_upto_region 5 with fail
        refine wp_region_any (by kernel_rfl) ?_
        change wpAny _ _ _ _ _ _ _ (World.drew _)
        refine wpAny_take (i := 0) (v := ?_) rfl (by kernel_rfl) (by kernel_rfl) (by kernel_rfl) (fun _ _ _ h => h) (Or.inl ⟨by rfl, by intro w; go_simp; with_reducible rfl⟩) ?_
        refine wpAny_take (i := 1) (v := ?_) rfl (by kernel_rfl) (by kernel_rfl) (by kernel_rfl) (fun _ _ _ h => h) (Or.inl ⟨by rfl, by intro w; go_simp; with_reducible rfl⟩) ?_
        refine wpAny_take (i := 3) (v := ?_) rfl (by kernel_rfl) (by kernel_rfl) (by kernel_rfl) (fun _ _ _ h => h) (Or.inl ⟨by rfl, by intro w; go_simp; with_reducible rfl⟩) ?_
        refine wpAny_ready (rs := [2, 4]) (by kernel_rfl) (by simp) ?_
        refine AllReady.cons rfl (fun K hK => ?_) ?_
        · go_simp
          refine hK _ _ ?_
          clear hK K
          refine wpAny_ready (rs := [4]) (by kernel_rfl) (by simp) ?_
          refine AllReady.cons rfl (fun K hK => ?_) AllReady.nil
          go_simp
          refine (number_ok rb db { s with pos := p } d 3 _ hn hdb (by exact hrr) (by exact hd2) (by omega) hl).mono ?_
          rintro e w1 ⟨rfl, hr1, hf1⟩
          have hf1' : Fr (One rb) wr w1 := Fr.trans ((Fr.refl _ _).drew) hf1
          have htell2 := (hE2.fr hf1' (fun k hk => one_ne (by omega))).tell k (by omega)
          rw [← HOR.out] at htell2
          have hL1 := hf1'.at HL.out (one_ne (by omega))
          have co1 := (cell_of hL1 od).trans (uvs_get (by omega))
          have fo1 := frozen_of hL1 od
          refine hK _ _ ?_
          clear hK K
          refine wpAny_take (i := 5) (v := ?_) rfl (by kernel_rfl) (by kernel_rfl) (by kernel_rfl) (fun _ _ _ h => h) (Or.inl ⟨by rfl, by intro w; go_simp; with_reducible rfl⟩) ?_
          refine wpAny_take (i := 6) (v := ?_) rfl (by kernel_rfl) (by kernel_rfl) (by kernel_rfl) (fun _ _ _ h => h) (Or.inl ⟨by rfl, by intro w; go_simp; with_reducible rfl⟩) ?_
          refine wpAny_ready (rs := [7]) (by kernel_rfl) (by simp) ?_
          refine AllReady.cons rfl (fun K hK => ?_) AllReady.nil
          go_simp
          refine hK _ _ ?_
          clear hK K
          refine wpAny_done (by kernel_rfl) ?_ _
          obtain ⟨hrx, hLx, hRx, hfx, hlx⟩ := tell_cut (od := od) (x := Gz.val d p 3) HL.out HR0.out hfr hf1' hr1 (by omega) hlsl
          go_wp2
          refine ⟨⟨k + 1, p + 3, ls.set od (Gz.val d p 3), by omega, by go_num, ?_, ?_, hlx, hrx, hLx, hRx, hfx⟩, by simp [intOf]; omega⟩
          · rw [HT.out]; simp only [Gz.num, if_pos hl, Gz.Out.bind]
          · exact lens_set hls (by omega)
        refine AllReady.cons rfl (fun K hK => ?_) AllReady.nil
        go_simp
        refine (number_ok rb db { s with pos := p } d 3 _ hn hdb (by exact hrr) (by exact hd2) (by omega) hl).mono ?_
        rintro e w1 ⟨rfl, hr1, hf1⟩
        have hf1' : Fr (One rb) wr w1 := Fr.trans ((Fr.refl _ _).drew) hf1
        have htell2 := (hE2.fr hf1' (fun k hk => one_ne (by omega))).tell k (by omega)
        rw [← HOR.out] at htell2
        have hL1 := hf1'.at HL.out (one_ne (by omega))
        have co1 := (cell_of hL1 od).trans (uvs_get (by omega))
        have fo1 := frozen_of hL1 od
        refine hK _ _ ?_
        clear hK K
        refine wpAny_take (i := 5) (v := ?_) rfl (by kernel_rfl) (by kernel_rfl) (by kernel_rfl) (fun _ _ _ h => h) (Or.inl ⟨by rfl, by intro w; go_simp; with_reducible rfl⟩) ?_
        refine wpAny_ready (rs := [2]) (by kernel_rfl) (by simp) ?_
        refine AllReady.cons rfl (fun K hK => ?_) AllReady.nil
        go_simp
        refine hK _ _ ?_
        clear hK K
        refine wpAny_take (i := 6) (v := ?_) rfl (by kernel_rfl) (by kernel_rfl) (by kernel_rfl) (fun _ _ _ h => h) (Or.inl ⟨by rfl, by intro w; go_simp; with_reducible rfl⟩) ?_
        refine wpAny_ready (rs := [7]) (by kernel_rfl) (by simp) ?_
        refine AllReady.cons rfl (fun K hK => ?_) AllReady.nil
        go_simp
        refine hK _ _ ?_
        clear hK K
        refine wpAny_done (by kernel_rfl) ?_ _
        obtain ⟨hrx, hLx, hRx, hfx, hlx⟩ := tell_cut (od := od) (x := Gz.val d p 3) HL.out HR0.out hfr hf1' hr1 (by omega) hlsl
        go_wp2
        refine ⟨⟨k + 1, p + 3, ls.set od (Gz.val d p 3), by omega, by go_num, ?_, ?_, hlx, hrx, hLx, hRx, hfx⟩, by simp [intOf]; omega⟩
        · rw [HT.out]; simp only [Gz.num, if_pos hl, Gz.Out.bind]
        · exact lens_set hls (by omega)
      · have HD : Hid (Gz.telling d n s.pos = .error 2) := by
          unfold Hid Gz.telling; rw [HT.out]; simp only [Gz.num, if_neg hl, Gz.Out.bind]
        go_upto_region 5 with fail
        refine wp_region_any (by kernel_rfl) ?_
        change wpAny _ _ _ _ _ _ _ (World.drew _)
        refine wpAny_take (i := 0) (v := ?_) rfl (by kernel_rfl) (by kernel_rfl) (by kernel_rfl) (fun _ _ _ h => h) (Or.inl ⟨by rfl, by intro w; go_simp; with_reducible rfl⟩) ?_
        refine wpAny_take (i := 1) (v := ?_) rfl (by kernel_rfl) (by kernel_rfl) (by kernel_rfl) (fun _ _ _ h => h) (Or.inl ⟨by rfl, by intro w; go_simp; with_reducible rfl⟩) ?_
        refine wpAny_take (i := 3) (v := ?_) rfl (by kernel_rfl) (by kernel_rfl) (by kernel_rfl) (fun _ _ _ h => h) (Or.inl ⟨by rfl, by intro w; go_simp; with_reducible rfl⟩) ?_
        refine wpAny_ready (rs := [2, 4]) (by kernel_rfl) (by simp) ?_
        refine AllReady.cons rfl (fun K hK => ?_) ?_
        · go_simp
          refine hK _ _ ?_
          clear hK K
          refine wpAny_ready (rs := [4]) (by kernel_rfl) (by simp) ?_
          refine AllReady.cons rfl (fun K hK => ?_) AllReady.nil
          go_simp
          refine (number_short rb db { s with pos := p } d 3 _ hn hdb (by exact hrr) (by exact hd2) (by omega) (by omega) hl).mono ?_
          rintro e w1 ⟨⟨p', m, rfl, hp'⟩, ⟨q2, hr2⟩, hf2⟩
          refine bodyPost_panic (P := Tryz.prog) (fn := Tryz.f114) rfl ⟨hfr.trans (Fr.trans ((Fr.refl _ _).drew) hf2), ?_⟩
          rw [HD.out]
          exact ⟨⟨_, hr2⟩, Or.inl ⟨rfl, p', m, rfl, hp'⟩⟩
        refine AllReady.cons rfl (fun K hK => ?_) AllReady.nil
        go_simp
        refine (number_short rb db { s with pos := p } d 3 _ hn hdb (by exact hrr) (by exact hd2) (by omega) (by omega) hl).mono ?_
        rintro e w1 ⟨⟨p', m, rfl, hp'⟩, ⟨q2, hr2⟩, hf2⟩
        refine bodyPost_panic (P := Tryz.prog) (fn := Tryz.f114) rfl ⟨hfr.trans (Fr.trans ((Fr.refl _ _).drew) hf2), ?_⟩
        rw [HD.out]
        exact ⟨⟨_, hr2⟩, Or.inl ⟨rfl, p', m, rfl, hp'⟩⟩
    · have HT : Hid (Gz.telling d n s.pos = if Gz.complete ls then .ok ((Gz.makeCode ls), p) else .error 5) := by
        unfold Hid Gz.telling; rw [← HGO.out, show n - k = 0 by omega]; rfl
      have hBl : Bys wr (w.heap.size + 1) 0 ls := ⟨lt_of hL, fun i hi => by rw [Nat.zero_add, cell_of hL i]; exact uvs_get hi⟩
      have hsent : wr.cell? ⟨2, 0, none⟩ = some (.iface 248 (.pointer (some (sp 5)))) := hE2.err 5 (by omega) (by omega)
      clear hL hR0
      go_wp2_with fail
      refine (complete_at (w.heap.size + 1) 0 19 19 ls _ hBl hls (by omega) hlsl.symm).mono ?_
      rintro e w1 ⟨rfl, rfl⟩
      cases hcm : Gz.complete ls with
      | true =>
        have HD : Hid (Gz.telling d n s.pos = .ok ((Gz.makeCode ls), p)) := by unfold Hid; rw [HT.out, hcm]; rfl
        clear hcm
        go_wp2_with fail
        refine (makeCode_at (w.heap.size + 1) 0 19 19 ls _ hBl hls (by omega) hlsl.symm).mono ?_
        rintro e w2 ⟨sb, hsb, rfl, hsbb, hf2⟩
        have hR2 := hf2.at HR0.out (no_no _)
        have HR2 := hide hR2
        have hcm16 : (Gz.makeCode ls).count.length = 16 := counts_length ls
        clear hR2
        go_wp2_with (refine wpList_store_row rfl 195 (.tmp 4) (.tmp 29) rfl w.heap.size (CC (Gz.makeCode ls).count (.slice (some ⟨sb, 0, none⟩) (Gz.makeCode ls).symbols.length (Gz.makeCode ls).symbols.length) (Gz.makeCode ls).longest) rfl rfl 195 (CC (List.replicate 16 0) (.slice none 0 0) 0) (by exact HR2.out) (by rw [CC_size hcm16]; kernel_rfl) (by rw [CC_size hcm16, CC_size (by simp)]) (by simp [CC, iv, Value.oneCell']) ?_)
        have hfin : (w2.setRow w.heap.size (CC (Gz.makeCode ls).count (.slice (some ⟨sb, 0, none⟩) (Gz.makeCode ls).symbols.length (Gz.makeCode ls).symbols.length) (Gz.makeCode ls).longest)).heap[w.heap.size]? = some (.cells (CC (Gz.makeCode ls).count (.slice (some ⟨sb, 0, none⟩) (Gz.makeCode ls).symbols.length (Gz.makeCode ls).symbols.length) (Gz.makeCode ls).longest) 195 (0, 0)) := setRow_heap _ _ _ _ _ _ HR2.out
        have hld := run_loadVar_row (P := Tryz.prog) _ w.heap.size 195 195 _ (0, 0) _ hfin Tryz.underlying195 rfl (by rw [CC_size hcm16]; kernel_rfl)
        refine bodyPost_ret (v := .tuple #[.agg (CC (Gz.makeCode ls).count (.slice (some ⟨sb, 0, none⟩) (Gz.makeCode ls).symbols.length (Gz.makeCode ls).symbols.length) (Gz.makeCode ls).longest), .nilIface]) (two_res rfl rfl hld) rfl ?_
        have hwl := hfr.size
        refine ⟨?_, ?_⟩
        · have h1 := hfr.trans hf2.of_no
          refine ⟨h1.os, h1.tape, h1.output, by rw [size_setRow]; exact h1.size, fun k hk hs => ?_⟩
          rw [setRow_other _ _ _ _ (by omega)]; exact h1.block k hk hs
        · rw [HD.out]
          have hsne : sb ≠ w.heap.size := fun e => by have := lt_of HR0.out; omega
          refine ⟨sb, by omega, rfl, by rw [setRow_other _ _ _ _ hsne]; exact hsbb, makeCode_good ls hls (by omega), (fun j => by have := makeCode_small ls (by omega) j; omega), ?_⟩
          exact (hrr.fr hf2 (no_no _)).setRow (by omega)
      | false =>
        have HD : Hid (Gz.telling d n s.pos = .error 5) := by unfold Hid; rw [HT.out, hcm]; rfl
        clear hcm
        have HR1 : Hid (w1.heap[w.heap.size]? = some (.cells zeroCode 195 (0, 0))) := HR0
        have hlR := lt_of HR0.out
        have hsent2 : ((World.drew w1).setRow w.heap.size zeroCode).cell? ⟨2, 0, none⟩ = some (.iface 248 (.pointer (some (sp 5)))) := by rw [cell_setRow_other _ _ _ _ (by show 2 ≠ w.heap.size; omega)]; exact hsent
        go_wp2_with fail
        refine wp_region_any (by kernel_rfl) ?_
        change wpAny _ _ _ _ _ _ _ (World.drew _)
        refine wpAny_take (i := 0) (v := ?_) rfl (by kernel_rfl) (by kernel_rfl) (by kernel_rfl) (fun _ _ _ h => h) (Or.inl ⟨by rfl, by intro w; go_simp; with_reducible rfl⟩) ?_
        refine wpAny_ready (rs := [1, 5]) (by kernel_rfl) (by simp) ?_
        refine AllReady.cons rfl (fun K hK => ?_) ?_
        · go_simp
          refine hK _ _ ?_
          clear hK K
          refine wpAny_take (i := 2) (v := ?_) rfl (by kernel_rfl) (by kernel_rfl) (by kernel_rfl) (fun _ _ _ h => h) (Or.inl ⟨by rfl, by intro w; go_simp; with_reducible rfl⟩) ?_
          refine wpAny_ready (rs := [3, 5]) (by kernel_rfl) (by simp) ?_
          refine AllReady.cons rfl (fun K hK => ?_) ?_
          · go_simp
            refine hK _ _ ?_
            clear hK K
            refine wpAny_take (i := 4) (v := ?_) rfl (by kernel_rfl) (by kernel_rfl) (by kernel_rfl) (fun _ _ _ h => h) (Or.inl ⟨by rfl, by intro w; go_simp; with_reducible rfl⟩) ?_
            refine wpAny_ready (rs := [5]) (by kernel_rfl) (by simp) ?_
            refine AllReady.cons rfl (fun K hK => ?_) AllReady.nil
            refine wp_store_row 195 (.tmp 4) (.tmp 23) rfl w.heap.size zeroCode rfl rfl 195 zeroCode (by exact alloc_old HR1.out) (by kernel_rfl) rfl (by simp [zeroCode, CC, iv, Value.oneCell']) ?_
            refine hK _ _ ?_
            clear hK K
            refine wpAny_take (i := 6) (v := ?_) rfl (by kernel_rfl) (by kernel_rfl) (by kernel_rfl) (fun _ _ _ h => h) (Or.inl ⟨by rfl, by intro w; go_simp; with_reducible rfl⟩) ?_
            refine wpAny_done (by kernel_rfl) ?_ _
            go_wp2_with fail
            refine bodyPost_ret (v := .tuple #[.agg zeroCode, .iface 87 (.pointer (some ⟨w1.heap.size, 0, none⟩))]) (two_res (b := w.heap.size) rfl rfl ?_) rfl ?_
            · exact run_loadVar_row (P := Tryz.prog) _ w.heap.size 195 195 _ (0, 0) _ (setRow_heap _ _ _ _ _ _ (alloc_old HR1.out)) Tryz.underlying195 rfl (by kernel_rfl)
            · refine ⟨(hfr.drew.alloc _).setRow (by omega), ?_⟩
              rw [HD.out]
              exact ⟨⟨p, by exact (Rd.alloc hrr _).setRow (by omega)⟩, Or.inr ⟨by omega, by omega, _, 1, rfl, .fault _ _ _ _ _ (by rw [setRow_other _ _ _ _ (by omega)]; exact alloc_at (World.drew w1) _) (.sent 5 (by omega) (by omega))⟩⟩
          refine AllReady.cons rfl (fun K hK => ?_) AllReady.nil
          refine wp_store_row 195 (.tmp 4) (.tmp 23) rfl w.heap.size zeroCode rfl rfl 195 zeroCode (by exact HR1.out) (by kernel_rfl) rfl (by simp [zeroCode, CC, iv, Value.oneCell']) ?_
          refine hK _ _ ?_
          clear hK K
          refine wpAny_ready (rs := [3]) (by kernel_rfl) (by simp) ?_
          refine AllReady.cons rfl (fun K hK => ?_) AllReady.nil
          go_simp
          refine hK _ _ ?_
          clear hK K
          refine wpAny_take (i := 4) (v := ?_) rfl (by kernel_rfl) (by kernel_rfl) (by kernel_rfl) (fun _ _ _ h => h) (Or.inl ⟨by rfl, by intro w; go_simp; with_reducible rfl⟩) ?_
          refine wpAny_take (i := 6) (v := ?_) rfl (by kernel_rfl) (by kernel_rfl) (by kernel_rfl) (fun _ _ _ h => h) (Or.inl ⟨by rfl, by intro w; go_simp; with_reducible rfl⟩) ?_
          refine wpAny_done (by kernel_rfl) ?_ _
          go_wp2_with fail
          refine bodyPost_ret (v := .tuple #[.agg zeroCode, .iface 87 (.pointer (some ⟨w1.heap.size, 0, none⟩))]) (two_res (b := w.heap.size) rfl rfl ?_) rfl ?_
          · exact run_loadVar_row (P := Tryz.prog) _ w.heap.size 195 195 _ (0, 0) _ (alloc_old (setRow_heap _ _ _ _ _ _ HR1.out)) Tryz.underlying195 rfl (by kernel_rfl)
          · refine ⟨(hfr.drew.setRow (by omega)).alloc _, ?_⟩
            rw [HD.out]
            exact ⟨⟨p, by exact Rd.alloc (Rd.setRow hrr (by omega)) _⟩, Or.inr ⟨by omega, by omega, _, 1, rfl, .fault _ _ _ _ _ (alloc_setRow_at (World.drew w1) _ _ _) (.sent 5 (by omega) (by omega))⟩⟩
        refine AllReady.cons rfl (fun K hK => ?_) AllReady.nil
        refine wp_store_row 195 (.tmp 4) (.tmp 23) rfl w.heap.size zeroCode rfl rfl 195 zeroCode (by exact HR1.out) (by kernel_rfl) rfl (by simp [zeroCode, CC, iv, Value.oneCell']) ?_
        refine hK _ _ ?_
        clear hK K
        refine wpAny_ready (rs := [1]) (by kernel_rfl) (by simp) ?_
        refine AllReady.cons rfl (fun K hK => ?_) AllReady.nil
        go_simp
        refine hK _ _ ?_
        clear hK K
        refine wpAny_take (i := 2) (v := ?_) rfl (by kernel_rfl) (by kernel_rfl) (by kernel_rfl) (fun _ _ _ h => h) (Or.inl ⟨by rfl, by intro w; go_simp; with_reducible rfl⟩) ?_
        refine wpAny_ready (rs := [3]) (by kernel_rfl) (by simp) ?_
        refine AllReady.cons rfl (fun K hK => ?_) AllReady.nil
        go_simp
        refine hK _ _ ?_
        clear hK K
        refine wpAny_take (i := 4) (v := ?_) rfl (by kernel_rfl) (by kernel_rfl) (by kernel_rfl) (fun _ _ _ h => h) (Or.inl ⟨by rfl, by intro w; go_simp; with_reducible rfl⟩) ?_
        refine wpAny_take (i := 6) (v := ?_) rfl (by kernel_rfl) (by kernel_rfl) (by kernel_rfl) (fun _ _ _ h => h) (Or.inl ⟨by rfl, by intro w; go_simp; with_reducible rfl⟩) ?_
        refine wpAny_done (by kernel_rfl) ?_ _
        go_wp2_with fail
        refine bodyPost_ret (v := .tuple #[.agg zeroCode, .iface 87 (.pointer (some ⟨w1.heap.size, 0, none⟩))]) (two_res (b := w.heap.size) rfl rfl ?_) rfl ?_
        · exact run_loadVar_row (P := Tryz.prog) _ w.heap.size 195 195 _ (0, 0) _ (alloc_old (setRow_heap _ _ _ _ _ _ HR1.out)) Tryz.underlying195 rfl (by kernel_rfl)
        · refine ⟨(hfr.drew.setRow (by omega)).alloc _, ?_⟩
          rw [HD.out]
          exact ⟨⟨p, by exact Rd.alloc (Rd.setRow hrr (by omega)) _⟩, Or.inr ⟨by omega, by omega, _, 1, rfl, .fault _ _ _ _ _ (alloc_setRow_at (World.drew w1) _ _ _) (.sent 5 (by omega) (by omega))⟩⟩
end Go.Proofs.YtjjjlilflbddoaaGreatDoor
