import Derived.Test.YtjjjlilflbddoaaGreatDoorQSyms
import Derived.Test.YtjjjlilflbddoaaGreatDoorAsk2
import Derived.Test.YtjjjlilflbddoaaGreatDoorQM
import Derived.Laws.CopyRow
namespace Go.Proofs.YtjjjlilflbddoaaGreatDoor
open Go.RowKit

theorem wp_copy_row {o : Oper} {a : Act} {w : World} {K : Act → World → Prop} {Q : Exit → Act → World → Prop} (x y : Operand) (dT sT elem : TypeId) (ho : o.op = .call { callee := .builtin .copy, args := #[x, y], argTypes := #[dT, sT] })
    (g off dLen dCap : Nat) (hx : a.eval x = .slice (some ⟨g, off, none⟩) dLen dCap) (sb so sLen sCap : Nat) (hy : a.eval y = .slice (some ⟨sb, so, none⟩) sLen sCap) (cur : Array Value) (t : TypeId) (cs : List Value)
    (hu : Tryz.prog.underlying dT = some (.slice elem)) (hs : (Tryz.prog.info? elem).map (·.size) = some 1) (hg : w.heap[g]? = some (.cells cur t (0, 0))) (hn : cs.length = Nat.min sLen dLen)
    (hsrc : ∀ j v, cs[j]? = some v → w.cell? ⟨sb, so + j, none⟩ = some v) (hfit : off + cs.length ≤ cur.size) (h1 : ∀ v ∈ cs, v.oneCell' = true)
    (news : Array Value) (hnew : (cur.toList.take off ++ cs ++ cur.toList.drop (off + cs.length)).toArray = news)
    (h : ∀ w', w'.heap[g]? = some (.cells news t (0, 0)) → Fr (One g) w w' → K (a.put o.dst (goInt cs.length)) w') : o.wp Tryz.prog a w K Q := by
  have hr := run_copy_row Tryz.prog w dT sT o.type elem g off dLen dCap ⟨sb, so, none⟩ sLen sCap cur t cs hu hs hg hn (fun j v hv => by rw [Addr.add_mid]; exact hsrc j v hv) hfit h1
  rw [hnew] at hr
  unfold Oper.wp execOp
  simp only [ho, resolve, invoke, builtin, Sem.run_bind, Sem.run_pure, Result.andThen_ok, List.map_toArray, List.map_cons, List.map_nil, hx, hy, hr]
  exact h _ (setRow_heap _ _ _ _ _ _ hg) ⟨rfl, rfl, rfl, by rw [size_setRow]; exact Nat.le_refl _, fun k _ hs => setRow_other _ _ _ _ hs⟩

theorem uv_one (l : List Nat) : ∀ v ∈ l.map uv, v.oneCell' = true := by
  intro v hv
  obtain ⟨n, _, rfl⟩ := List.mem_map.1 hv
  rfl


/-- How the reading of lengths comes to its end. -/
def RanK (sp : Nat → Addr) (w : World) (rb : Nat) (s : RS) (K0 : List Nat) (tsb mb : Nat) (c : Gz.Tc) (r : Gz.Out (List Nat)) (e : Ending) (w' : World) : Prop :=
  match r with
  | .ok (l, q) => Fr (fun k => k = rb ∨ Duo tsb mb k) w w' ∧ e = .returned .nilIface ∧ KeyOk l ∧ ∃ tb s1 s2 K', TableAt w' K' tb s1 s2 (Gz.makeTable l) ∧ TabsAt w' K' tsb mb (c.ask l) ∧ Grow K0 K' w w' ∧ Rd w' rb { s with pos := q, bg := s.pos, tb := .pointer (some ⟨tb, 0, none⟩), pl := 4 }
  | .error k => Fr (One rb) w w' ∧ (∃ q, Rd w' rb { s with pos := q, bg := s.pos }) ∧ ((k = 2 ∧ ShortP w' e) ∨ (3 ≤ k ∧ k ≤ 8 ∧ ∃ v n, e = .returned v ∧ Err sp w' v k n))

theorem cp_one (l : List Nat) (sy : Nat) (_h1 : sy ≤ 288) (h2 : sy ≤ l.length) : ((uvs zeros320).toList.take 0 ++ (l.take sy).map uv ++ (uvs zeros320).toList.drop (0 + ((l.take sy).map uv).length)).toArray = uvs (l.take sy ++ List.replicate (320 - sy) 0) := by
  have e : (uvs zeros320).toList = (List.replicate 320 0).map uv := rfl
  rw [e, List.take_zero, List.nil_append, Nat.zero_add, List.length_map, List.length_take, Nat.min_eq_left h2, ← List.map_drop, List.drop_replicate, ← List.map_append]
  rfl
theorem cp_join (A B : List Nat) (h1 : A.length ≤ 288) (h3 : B.length ≤ 32) : ((A ++ List.replicate (320 - A.length) 0).take 288 ++ B ++ (A ++ List.replicate (320 - A.length) 0).drop (288 + B.length)) = (A ++ List.replicate (288 - A.length) 0) ++ (B ++ List.replicate (32 - B.length) 0) := by
  rw [List.take_append, List.drop_append, List.take_of_length_le h1, List.drop_eq_nil_of_le (by omega), List.take_replicate, List.drop_replicate, List.nil_append,
    show min (288 - A.length) (320 - A.length) = 288 - A.length by omega, show 320 - A.length - (288 + B.length - A.length) = 32 - B.length by omega]
  simp only [List.append_assoc]
theorem cp_two (l : List Nat) (sy : Nat) (h1 : sy ≤ 288) (h2 : sy ≤ l.length) (h3 : l.length ≤ sy + 32) :
    ((uvs (l.take sy ++ List.replicate (320 - sy) 0)).toList.take 288 ++ (l.drop sy).map uv ++ (uvs (l.take sy ++ List.replicate (320 - sy) 0)).toList.drop (288 + ((l.drop sy).map uv).length)).toArray = uvs (Gz.wide (l.take sy) 288 ++ Gz.wide (l.drop sy) 32) := by
  have e : (uvs (l.take sy ++ List.replicate (320 - sy) 0)).toList = (l.take sy ++ List.replicate (320 - sy) 0).map uv := rfl
  have hl : (l.take sy).length = sy := by simp; omega
  have hd : (l.drop sy).length = l.length - sy := by simp
  rw [e, List.length_map, ← List.map_take, ← List.map_drop, ← List.map_append, ← List.map_append]
  have h := cp_join (l.take sy) (l.drop sy) (by omega) (by omega)
  rw [hl] at h
  unfold uvs Gz.wide
  rw [h, hl]
set_option maxRecDepth 100000 in
set_option maxHeartbeats 3200000 in
theorem codes_any (sp : Nat → Addr) (rb db : Nat) (s : RS) (d : List UInt8) (w : World) (hn : d.length ≤ 4000) (hdb : db ≠ rb) (h13 : 16 ≤ rb) (hdl : db < w.heap.size)
    (hE : Env sp w) (hr : Rd w rb s) (hd : Dat w db s.dv d) (hpos : s.pos ≤ 8 * d.length)
    (K0 : List Nat) (tsb mb : Nat) (c : Gz.Tc) (hT : TabsAt w K0 tsb mb c) (hts : s.ts = .pointer (some ⟨tsb, 0, none⟩)) (hK0 : ∀ k ∈ K0, k < w.heap.size) (ht0 : tsb ∉ K0) (hm0 : mb ∉ K0) (hrK : rb ∉ K0) (hask : c.asked < 2 ^ 62) :
    Calls Tryz.prog 87 #[.pointer (some ⟨rb, 0, none⟩)] w (RanK sp w rb s K0 tsb mb c (Gz.keys d s.pos)) := by
  have hne := neq_err
  have hnn := neq_nil
  have hrl := hr.lt
  have hrt : tsb ≠ rb := hT.ne hr
  have hrm : mb ≠ rb := hT.nem hr
  have HT := hide hT
  clear hT
  have k1 := hr.c1
  have k2 := hr.c2
  have e2 := hr.fz 3
  have hr1 : Rd (w.setCell ⟨rb, 3, none⟩ (.int .i64 s.pos)) rb { s with bg := s.pos } := hr.s2 _ _ rfl (by omega)
  have hf1 : Fr (One rb) w (w.setCell ⟨rb, 3, none⟩ (.int .i64 s.pos)) := (Fr.refl _ _).setCell (fun _ => one_self rb) _
  have hd1 := hd.fr hf1 (one_ne hdb)
  by_cases h5 : s.pos + 5 ≤ 8 * d.length
  · have v1 := val_lt d s.pos 5
    by_cases h10 : s.pos + 5 + 5 ≤ 8 * d.length
    · have v2 := val_lt d (s.pos + 5) 5
      by_cases h14 : s.pos + 5 + 5 + 4 ≤ 8 * d.length
      · have v3 := val_lt d (s.pos + 5 + 5) 4
        have HC : Hid (Gz.keys d s.pos = if 286 < Gz.val d s.pos 5 + 257 ∨ 30 < Gz.val d (s.pos + 5) 5 + 1 then .error 5 else
            (Gz.telling d (Gz.val d (s.pos + 5 + 5) 4 + 4) (s.pos + 5 + 5 + 4)).bind fun tc p4 => (Gz.told d tc (Gz.val d s.pos 5 + 257 + (Gz.val d (s.pos + 5) 5 + 1)) p4).bind fun l p5 =>
              if Gz.check (Gz.wide (l.take (Gz.val d s.pos 5 + 257)) 288 ++ Gz.wide (l.drop (Gz.val d s.pos 5 + 257)) 32) then .ok ((Gz.wide (l.take (Gz.val d s.pos 5 + 257)) 288 ++ Gz.wide (l.drop (Gz.val d s.pos 5 + 257)) 32), p5) else .error 5) := by
          unfold Hid Gz.keys; simp only [Gz.num, if_pos h5, if_pos h10, if_pos h14, Gz.Out.bind]
        go_enter Tryz.func87, Tryz.ntmps87
        go_wp2_with fail
        refine (number_ok rb db _ d 5 _ hn hdb hr1 hd1 (by omega) h5).mono ?_
        rintro e w2 ⟨rfl, hr2, hf2⟩
        have hd2 := hd1.fr hf2 (one_ne hdb)
        go_wp2_with fail
        refine (number_ok rb db _ d 5 _ hn hdb hr2 hd2 (by omega) h10).mono ?_
        rintro e w3 ⟨rfl, hr3, hf3⟩
        have hd3 := hd2.fr hf3 (one_ne hdb)
        go_wp2_with fail
        refine (number_ok rb db _ d 4 _ hn hdb hr3 hd3 (by omega) h14).mono ?_
        rintro e w4 ⟨rfl, hr4, hf4⟩
        have hd4 := hd3.fr hf4 (one_ne hdb)
        have hfw := hf1.trans (hf2.trans (hf3.trans hf4))
        have hE4 := hE.fr hfw (fun k hk => one_ne (by omega))
        have hr4 : Rd w4 rb { s with bg := s.pos, pos := s.pos + 5 + 5 + 4 } := hr4
        generalize Gz.val d s.pos 5 = va at *
        generalize Gz.val d (s.pos + 5) 5 = vb at *
        generalize Gz.val d (s.pos + 5 + 5) 4 = vc at *
        have hsent : w4.cell? ⟨2, 0, none⟩ = some (.iface 248 (.pointer (some (sp 5)))) := hE4.err 5 (by omega) (by omega)
        by_cases hbig : 286 < va + 257 ∨ 30 < vb + 1
        · have HD : Hid (Gz.keys d s.pos = .error 5) := by unfold Hid; rw [HC.out, if_pos hbig]
          have hlg : decide (286 < (va : Int) + 257) = true ∨ (decide (286 < (va : Int) + 257) = false ∧ decide (30 < (vb : Int) + 1) = true) := by
            by_cases h : 286 < va + 257
            · left; simp; omega
            · right; constructor
              · simp; omega
              · simp; omega
          clear hbig
          rcases hlg with hlg | ⟨hlg, hlg2⟩
          all_goals
            go_wp2
            go_ret
            rw [HD.out]
            refine ⟨hfw.alloc _, ?_⟩
            exact ⟨⟨_, hr4.alloc _⟩, Or.inr ⟨by omega, by omega, _, 1, rfl, .fault _ _ _ _ _ (alloc_at w4 _) (.sent 5 (by omega) (by omega))⟩⟩
        · have hva : va ≤ 29 := by omega
          have hvb : vb ≤ 29 := by omega
          have hlg : decide (286 < (va : Int) + 257) = false := by simp; omega
          have hlg2 : decide (30 < (vb : Int) + 1) = false := by simp; omega
          have HC2 : Hid (Gz.keys d s.pos = (Gz.telling d (vc + 4) (s.pos + 5 + 5 + 4)).bind fun tc p4 => (Gz.told d tc (va + 257 + (vb + 1)) p4).bind fun l p5 =>
              if Gz.check (Gz.wide (l.take (va + 257)) 288 ++ Gz.wide (l.drop (va + 257)) 32) then .ok ((Gz.wide (l.take (va + 257)) 288 ++ Gz.wide (l.drop (va + 257)) 32), p5) else .error 5) := by
            unfold Hid; rw [HC.out, if_neg hbig]
          clear hbig
          obtain ⟨nt, hnt⟩ : ∃ nt, nt = vc + 4 := ⟨_, rfl⟩
          obtain ⟨sy, hsy⟩ : ∃ sy, sy = va + 257 := ⟨_, rfl⟩
          obtain ⟨ct, hct⟩ : ∃ ct, ct = va + 257 + (vb + 1) := ⟨_, rfl⟩
          rw [← hct, ← hsy, ← hnt] at HC2
          have HNT := hide hnt
          have HSY := hide hsy
          have HCT := hide hct
          have hnt19 : nt ≤ 19 := by omega
          have hsyl : sy ≤ 286 := by omega
          have hsy0 : 257 ≤ sy := by omega
          have hctl : ct ≤ sy + 30 := by omega
          have hctl2 : sy + 1 ≤ ct := by omega
          clear hnt hsy hct
          go_wp2_with fail
          rw [show ((vc : Int) + 4) = ((nt : Nat) : Int) by rw [HNT.out]; omega]
          refine (tellingCode_any sp rb db nt { s with bg := s.pos, pos := s.pos + 5 + 5 + 4 } d _ hn hdb h13 (Nat.lt_of_lt_of_le hdl hfw.size) hE4 hr4 hd4 hnt19).mono ?_
          rintro e w5 ⟨hf5, hres⟩
          have hfw5 := hfw.trans hf5
          have hE5 := hE.fr hfw5 (fun k hk => one_ne (by omega))
          have hd5 := hd.fr hfw5 (one_ne hdb)
          cases htl : Gz.telling d nt (s.pos + 5 + 5 + 4) with
          | error k =>
            have HD : Hid (Gz.keys d s.pos = .error k) := by unfold Hid; rw [HC2.out, htl]; rfl
            rw [htl] at hres
            clear htl
            obtain ⟨⟨q, hr5⟩, ⟨rfl, p', m, rfl, hp'⟩ | ⟨h3, h8', v, m, rfl, hv⟩⟩ := hres
            · go_wp2
              refine bodyPost_panic rfl ?_
              rw [HD.out]
              refine ⟨hfw5, ?_⟩
              exact ⟨⟨_, hr5⟩, Or.inl ⟨rfl, p', m, rfl, hp'⟩⟩
            · obtain ⟨ty, p', rfl⟩ := hv.iface
              go_wp2_with (refine wpList_store_row rfl 195 (.tmp 6) (.tmp 41) rfl w5.heap.size zeroCode rfl rfl 195 zeroCode (by exact alloc_at w5 _) (by kernel_rfl) rfl (by simp [zeroCode, CC, iv, Value.oneCell']) ?_)
              go_ret
              rw [HD.out]
              refine ⟨(hfw5.alloc _).setRow (by have := hfw5.size; omega), ?_⟩
              have hlt5 := hr5.lt
              exact ⟨⟨_, (hr5.alloc _).setRow (by omega)⟩, Or.inr ⟨h3, h8', _, m, rfl, hv.fr (((Fr.refl No w5).alloc _).setRow (Nat.le_refl _))⟩⟩
          | ok okk =>
            obtain ⟨tc, q⟩ := okk
            have HC3 : Hid (Gz.keys d s.pos = (Gz.told d tc ct q).bind fun l p5 =>
              if Gz.check (Gz.wide (l.take sy) 288 ++ Gz.wide (l.drop sy) 32) then .ok ((Gz.wide (l.take sy) 288 ++ Gz.wide (l.drop sy) 32), p5) else .error 5) := by
              unfold Hid; rw [HC2.out, htl]; rfl
            have hq8 := telling_ok htl h14
            rw [htl] at hres
            clear htl
            obtain ⟨sb, hsb0, rfl, hsbb, hgood, hsmall, hr5⟩ := hres
            have hlt5 := hr5.lt
            have hlt4 := hr4.lt
            have hsz5 := hfw5.size
            have htc16 := hgood.len
            obtain ⟨w6, hw6⟩ : ∃ w6, w6 = (w5.alloc (.cells zeroCode 195)).setRow w5.heap.size (CC tc.count (.slice (some ⟨sb, 0, none⟩) tc.symbols.length tc.symbols.length) tc.longest) := ⟨_, rfl⟩
            have hb6 : w6.heap[w5.heap.size]? = some (.cells (CC tc.count (.slice (some ⟨sb, 0, none⟩) tc.symbols.length tc.symbols.length) tc.longest) 195 (0, 0)) := by rw [hw6]; exact setRow_heap _ _ _ _ _ _ (alloc_at w5 _)
            have hf6 : Fr No w5 w6 := by rw [hw6]; exact ((Fr.refl No w5).alloc _).setRow (Nat.le_refl _)
            have hr6 := hr5.fr hf6 (no_no _)
            have hsb6 := hf6.at hsbb (no_no _)
            have hc6 : CodeAt w6 w5.heap.size 0 sb tc := codeAt_of htc16 hb6 (fun i hi => by rw [Nat.zero_add]) hsb6
            have hsbl := lt_of hsbb
            have hE6 := hE5.fr hf6 (fun _ _ => no_no _)
            have hd6 := hd5.fr hf6 (no_no _)
            have hfw6 := hfw5.trans (hf6.of_no (T := One rb))
            have HW6 := hide hw6
            clear hw6 hb6
            go_wp2_with (refine wpList_store_row rfl 195 (.tmp 6) (.tmp 41) rfl w5.heap.size (CC tc.count (.slice (some ⟨sb, 0, none⟩) tc.symbols.length tc.symbols.length) tc.longest) rfl rfl 195 zeroCode (by exact alloc_at w5 _) (by rw [CC_size htc16]; kernel_rfl) (by rw [CC_size htc16]; rfl) (by simp [CC, iv, Value.oneCell']) ?_)
            change Calls _ _ _ ((w5.alloc (.cells zeroCode 195)).setRow _ _) _
            rw [← HW6.out]
            rw [show ((va : Int) + 257 + ((vb : Int) + 1)) = ((ct : Nat) : Int) by rw [HCT.out]; omega]
            refine (toldLengths_any sp rb db w5.heap.size 0 sb ct { s with bg := s.pos, pos := q } d tc _ hn hdb (by omega) (by omega) h13 hE6 hr6 hd6 hc6 hgood hsmall (by omega) hq8).mono ?_
            rintro e w7 ⟨hf7, hres⟩
            have hfw7 := hfw6.trans hf7
            have hE7 := hE.fr hfw7 (fun k hk => one_ne (by omega))
            cases htd : Gz.told d tc ct q with
            | error k =>
              have HD : Hid (Gz.keys d s.pos = .error k) := by unfold Hid; rw [HC3.out, htd]; rfl
              rw [htd] at hres
              clear htd
              obtain ⟨⟨q7, hr7⟩, ⟨rfl, p', m, rfl, hp'⟩ | ⟨h3, h8', t7, v, m, rfl, hv⟩⟩ := hres
              · go_wp2
                refine bodyPost_panic rfl ?_
                rw [HD.out]
                refine ⟨hfw7, ?_⟩
                exact ⟨⟨_, hr7⟩, Or.inl ⟨rfl, p', m, rfl, hp'⟩⟩
              · obtain ⟨ty, p', rfl⟩ := hv.iface
                go_wp2
                go_ret
                rw [HD.out]
                refine ⟨hfw7, ?_⟩
                exact ⟨⟨_, hr7⟩, Or.inr ⟨h3, h8', _, m, rfl, hv⟩⟩
            | ok okk =>
              obtain ⟨l, q7⟩ := okk
              have hll := told_len htd
              have HC4 : Hid (Gz.keys d s.pos = if Gz.check (Gz.wide (l.take sy) 288 ++ Gz.wide (l.drop sy) 32) then .ok ((Gz.wide (l.take sy) 288 ++ Gz.wide (l.drop sy) 32), q7) else .error 5) := by
                unfold Hid; rw [HC3.out, htd]; rfl
              rw [htd] at hres
              clear htd
              obtain ⟨tv, rfl, hrow7, hl15, hr7⟩ := hres
              have hlsd := lens_wide l sy hl15
              have hlsl := len_wide l sy ct hll (by omega) (by omega) (by omega)
              obtain ⟨g, cap, cur, rfl, hgB, hgc, hcap, _, hcs, htk⟩ : ∃ g cap cur, tv = .slice (some ⟨g, 0, none⟩) l.length cap ∧ w6.heap.size ≤ g ∧ w7.heap[g]? = some (.cells cur 5 (0, 0)) ∧ l.length ≤ cap ∧ cap ≤ maxLen ∧ cur.size = cap * 1 ∧ cur.toList.take (l.length * 1) = l.map uv := by
                rcases hrow7.2 with ⟨_, h0⟩ | h
                · omega
                · obtain ⟨g, cap, cur, h1, h2, h3, h4, h5, h6, h7⟩ := h
                  exact ⟨g, cap, cur, h1, h2, h3, h4, h5, h6, h7⟩
              have hsz7 := hfw7.size
              have hll1 : l.length ≤ ct := by omega
              have hll2 : ct ≤ l.length := by omega
              clear hll
              have hgl := lt_of hgc
              have hlt7 := hr7.lt
              generalize hls : Gz.wide (l.take sy) 288 ++ Gz.wide (l.drop sy) 32 = ls at *
              have HLS := hide hls
              clear hls hrow7
              have src : ∀ (W : World) (so : Nat) (cs : List Nat), W.heap[g]? = some (.cells cur 5 (0, 0)) → (∀ j, j < cs.length → so + j < l.length ∧ cs.getD j 0 = l.getD (so + j) 0) → ∀ j v, (cs.map uv)[j]? = some v → W.cell? ⟨g, so + j, none⟩ = some v := by
                intro W so cs hW hcs2 j v hj
                have hjl : j < cs.length := by have := (List.getElem?_eq_some_iff.1 hj).1; simpa using this
                obtain ⟨h1, h2⟩ := hcs2 j hjl
                rw [cell_of hW, ← Array.getElem?_toList]
                have e1 : (cur.toList.take (l.length * 1))[so + j]? = (l.map uv)[so + j]? := by rw [htk]
                rw [List.getElem?_take_of_lt (by omega)] at e1
                rw [e1, ← hj]
                simp [List.getD, hjl, h1] at h2
                simp [hjl, h1, h2]
              obtain ⟨lb, hlb⟩ : ∃ lb, lb = w7.heap.size := ⟨_, rfl⟩
              have hgw8 : (w7.alloc (.cells (uvs zeros320) 105)).heap[g]? = some (.cells cur 5 (0, 0)) := alloc_old hgc
              have hlb8 : (w7.alloc (.cells (uvs zeros320) 105)).heap[lb]? = some (.cells (uvs zeros320) 105 (0, 0)) := by rw [hlb]; exact alloc_at w7 _
              have hf8 : Fr No w7 (w7.alloc (.cells (uvs zeros320) 105)) := (Fr.refl _ _).alloc _
              have hlbg : lb ≠ g := by omega
              have hlbr : rb ≠ lb := by omega
              have HLBE := hide hlb
              have hlb7 : w7.heap.size ≤ lb := by omega
              clear hlb
              go_upto_region 14 with fail
              rw [← HLBE.out, show ((va : Int) + 257) = ((sy : Nat) : Int) by rw [HSY.out]; omega]
              have hsyc : (sy : Int) ≤ (cap : Int) := by omega
              have hsyl2 : (sy : Int) ≤ (l.length : Int) := by omega
              have hsyl3 : sy ≤ l.length := by omega
              have hsync : ¬ cap = sy := by omega
              change Code.wp _ _ _ _ (w7.alloc (.cells (uvs zeros320) 105))
              generalize hW8 : w7.alloc (.cells (uvs zeros320) 105) = w8 at *
              clear hW8
              have hr8 := hr7.fr hf8 (no_no _)
              have hE8 := hE7.fr hf8 (fun _ _ => no_no _)
              have HLB := hide hlb8
              have src1 := src (World.drew w8) 0 (l.take sy) hgw8 (fun j hj => by
                have h1 : j < l.length := by simp at hj; omega
                have h2 : j < sy := by simp at hj; omega
                refine ⟨by omega, ?_⟩
                rw [Nat.zero_add]; simp [List.getD, List.getElem?_take_of_lt h2])
              have S1 := hide src1
              have hn1 : ((l.take sy).map uv).length = Nat.min sy 288 := by rw [List.length_map, List.length_take]; show min sy l.length = min sy 288; omega
              have hfit1 : 0 + ((l.take sy).map uv).length ≤ (uvs zeros320).size := by rw [uvs_size, List.length_map, List.length_take]; show _ ≤ (List.replicate 320 0).length; rw [List.length_replicate]; omega
              clear src1 hlb8
              go_cut [] (fun wx => wx.heap[lb]? = some (.cells (uvs (l.take sy ++ List.replicate (320 - sy) 0)) 105 (0, 0)) ∧ Fr (One lb) (World.drew w8) wx)
              case first =>
                refine wp_region_any (by kernel_rfl) ?_
                change wpAny _ _ _ _ _ _ _ (World.drew _)
                refine wpAny_take (i := 0) (v := ?_) rfl (by kernel_rfl) (by kernel_rfl) (by kernel_rfl) (fun _ _ _ h => h) (Or.inl ⟨by rfl, by intro w; go_simp; with_reducible rfl⟩) ?_
                refine wpAny_take (i := 1) (v := ?_) rfl (by kernel_rfl) (by kernel_rfl) (by kernel_rfl) (fun _ _ _ h => h) (Or.inl ⟨by rfl, by intro w; go_simp; with_reducible rfl⟩) ?_
                refine wpAny_take (i := 2) (v := ?_) rfl (by kernel_rfl) (by kernel_rfl) (by kernel_rfl) (fun _ _ _ h => h) (Or.inl ⟨by rfl, by intro w; go_simp; with_reducible rfl⟩) ?_
                refine wpAny_take (i := 3) (v := ?_) rfl (by kernel_rfl) (by kernel_rfl) (by kernel_rfl) (fun _ _ _ h => h) (Or.inl ⟨by rfl, by intro w; go_simp; with_reducible rfl⟩) ?_
                refine wpAny_ready (rs := [4]) (by kernel_rfl) (by simp) ?_
                refine AllReady.cons rfl (fun K hK => ?_) AllReady.nil
                refine wp_copy_row (.tmp 57) (.tmp 60) 61 61 5 rfl lb 0 288 320 rfl g 0 sy cap rfl (uvs zeros320) 105 ((l.take sy).map uv) Tryz.underlying61 (by kernel_rfl) (by exact HLB.out) hn1 (by exact S1.out) hfit1 (uv_one _) _ (cp_one l sy (by omega) (by omega)) ?_
                intro w9 hlb9 hf9
                refine hK _ _ ?_
                clear hK K
                refine wpAny_done (by kernel_rfl) ?_ _
                go_wp2_with fail
                go_meet
                exact ⟨hlb9, hf9⟩
              revert hcut
              generalize wc = w9
              rintro ⟨hlb9, hf9⟩
              have hf9' : Fr No w7 w9 := by
                refine ⟨hf9.os.trans hf8.os, hf9.tape.trans hf8.tape, hf9.output.trans hf8.output, Nat.le_trans hf8.size hf9.size, fun k hk _ => ?_⟩
                have hk8 := hf8.size
                rw [hf9.block k (by show k < w8.heap.size; omega) (one_ne (by omega))]
                exact hf8.block k hk (no_no _)
              have hg9 : w9.heap[g]? = some (.cells cur 5 (0, 0)) := hf9.at (w := World.drew w8) hgw8 (one_ne (fun e => hlbg e.symm))
              have src2 := src (World.drew w9) sy (l.drop sy) hg9 (fun j hj => by
                have h1 : sy + j < l.length := by simp at hj; omega
                exact ⟨h1, by simp [List.getD]⟩)
              have S2 := hide src2
              have HLB9 := hide hlb9
              have hn2 : ((l.drop sy).map uv).length = Nat.min (l.length - sy) 32 := by rw [List.length_map, List.length_drop]; show l.length - sy = min (l.length - sy) 32; omega
              have hfit2 : 288 + ((l.drop sy).map uv).length ≤ (uvs (l.take sy ++ List.replicate (320 - sy) 0)).size := by rw [uvs_size, List.length_map, List.length_drop, List.length_append, List.length_take, List.length_replicate]; omega
              clear src2 hlb9 src
              go_upto_region 15 with fail
              go_cut [] (fun wx => wx.heap[lb]? = some (.cells (uvs (Gz.wide (l.take sy) 288 ++ Gz.wide (l.drop sy) 32)) 105 (0, 0)) ∧ Fr (One lb) (World.drew w9) wx)
              case first =>
                refine wp_region_any (by kernel_rfl) ?_
                change wpAny _ _ _ _ _ _ _ (World.drew _)
                refine wpAny_take (i := 0) (v := ?_) rfl (by kernel_rfl) (by kernel_rfl) (by kernel_rfl) (fun _ _ _ h => h) (Or.inl ⟨by rfl, by intro w; go_simp; with_reducible rfl⟩) ?_
                refine wpAny_take (i := 1) (v := ?_) rfl (by kernel_rfl) (by kernel_rfl) (by kernel_rfl) (fun _ _ _ h => h) (Or.inl ⟨by rfl, by intro w; go_simp; with_reducible rfl⟩) ?_
                refine wpAny_take (i := 2) (v := ?_) rfl (by kernel_rfl) (by kernel_rfl) (by kernel_rfl) (fun _ _ _ h => h) (Or.inl ⟨by rfl, by intro w; go_simp; with_reducible rfl⟩) ?_
                refine wpAny_take (i := 3) (v := ?_) rfl (by kernel_rfl) (by kernel_rfl) (by kernel_rfl) (fun _ _ _ h => h) (Or.inl ⟨by rfl, by intro w; go_simp; with_reducible rfl⟩) ?_
                refine wpAny_ready (rs := [4]) (by kernel_rfl) (by simp) ?_
                refine AllReady.cons rfl (fun K hK => ?_) AllReady.nil
                refine wp_copy_row (.tmp 62) (.tmp 65) 61 61 5 rfl lb 288 32 32 rfl g sy (l.length - sy) (cap - sy) rfl _ 105 ((l.drop sy).map uv) Tryz.underlying61 (by kernel_rfl) (by exact HLB9.out) hn2 (by exact S2.out) hfit2 (uv_one _) _ (cp_two l sy (by omega) (by omega) (by omega)) ?_
                intro w10 hlb10 hf10
                refine hK _ _ ?_
                clear hK K
                refine wpAny_done (by kernel_rfl) ?_ _
                go_wp2_with fail
                go_meet
                exact ⟨hlb10, hf10⟩
              revert hcut
              generalize wc = w10
              rintro ⟨hlb10, hf10⟩
              rw [HLS.out] at hlb10
              have hf10' : Fr No w7 w10 := by
                refine ⟨hf10.os.trans hf9'.os, hf10.tape.trans hf9'.tape, hf10.output.trans hf9'.output, Nat.le_trans hf9'.size hf10.size, fun k hk _ => ?_⟩
                have hk9 := hf9'.size
                rw [hf10.block k (by show k < w9.heap.size; omega) (one_ne (by omega))]
                exact hf9'.block k hk (no_no _)
              have hfw10 := hfw7.trans (hf10'.of_no (T := One rb))
              have hr10 := hr7.fr hf10' (no_no _)
              have hE10 := hE7.fr hf10' (fun _ _ => no_no _)
              have hB10 : Bys w10 lb 0 ls := ⟨lt_of hlb10, fun i hi => by rw [Nat.zero_add, cell_of hlb10 i]; exact uvs_get hi⟩
              have HLB10 := hide hlb10
              clear hlb10
              go_wp2_with fail
              refine (check_any sp lb ls _ hE10 hB10 hlsd hlsl).mono ?_
              rintro e w11 ⟨hf11, ⟨hck, rfl⟩ | ⟨hck, v, m, rfl, hv⟩⟩
              · have HD : Hid (Gz.keys d s.pos = .ok (ls, q7)) := by unfold Hid; rw [HC4.out, if_pos hck]
                clear hck
                have hlb11 := hf11.at HLB10.out (no_no _)
                have HLB11 := hide hlb11
                clear hlb11
                have hr11 := hr10.fr hf11 (no_no _)
                have hT11 : TabsAt w11 K0 tsb mb c := HT.out.fr (hfw10.trans (hf11.of_no (T := One rb))) (one_ne hrt) (one_ne hrm) (fun k hk => one_ne (fun e => hrK (e ▸ hk)))
                have hsz10 := hfw10.size
                have hsz11 := hf11.size
                have hgr : ∀ k ∈ K0, k < w11.heap.size := fun k hk => Nat.lt_of_lt_of_le (hK0 k hk) (by omega)
                have c10 : w11.cell? ⟨rb, 10, none⟩ = some (.pointer (some ⟨tsb, 0, none⟩)) := by rw [hr11.ct]; exact congrArg some hts
                have hlbt : tsb ≠ lb := by have := HT.out.lt; omega
                have hlbm : mb ≠ lb := by have := HT.out.ltm; omega
                go_wp2
                refine wp_region_held (S := fun W => W.heap[lb]? = some (.cells (uvs ls) 105 (0, 0)) ∧ W.cell? ⟨rb, 10, none⟩ = some (.pointer (some ⟨tsb, 0, none⟩))) (by kernel_rfl) ?_
                change wpAnyH _ _ _ _ _ _ _ _ (World.drew _)
                have hS0 : (World.drew w11).heap[lb]? = some (.cells (uvs ls) 105 (0, 0)) ∧ (World.drew w11).cell? ⟨rb, 10, none⟩ = some (.pointer (some ⟨tsb, 0, none⟩)) := ⟨HLB11.out, c10⟩
                refine wpAnyH_take (i := 0) (v := ?_) rfl (by kernel_rfl) (by kernel_rfl) (by kernel_rfl) (fun _ _ _ h => h) (Or.inl ⟨by rfl, by intro w _; go_simp; with_reducible rfl⟩) hS0 ?_
                refine wpAnyH_take (i := 1) (v := ?_) rfl (by kernel_rfl) (by kernel_rfl) (by kernel_rfl) (fun _ _ _ h => h) (Or.inl ⟨by rfl, by intro w _; go_simp; with_reducible rfl⟩) hS0 ?_
                refine wpAnyH_take (i := 2) (v := ?_) rfl (by kernel_rfl) (by kernel_rfl) (by kernel_rfl) (fun _ _ _ h => h) (Or.inl ⟨by rfl, by intro w _; go_simp; with_reducible rfl⟩) hS0 ?_
                refine wpAnyH_take (i := 3) (v := ?_) rfl (by kernel_rfl) (by kernel_rfl) (by kernel_rfl) (fun _ _ _ h => h) (Or.inl ⟨by rfl, by intro w _; go_simp; with_reducible rfl⟩) hS0 ?_
                refine wpAnyH_take (i := 4) (v := .pointer (some ⟨tsb, 0, none⟩)) rfl (by kernel_rfl) (by kernel_rfl) (by kernel_rfl) (fun _ _ _ h => h) (Or.inl ⟨by rfl, by intro w h; have h := h.2; go_simp⟩) hS0 ?_
                refine wpAnyH_take (i := 5) (v := .agg (uvs ls)) rfl (by kernel_rfl) (by kernel_rfl) (by kernel_rfl) (fun _ _ _ h => h) (yields_row rfl 105 (.tmp 9) rfl lb rfl 105 (uvs ls) (0, 0) _ (fun _ h => h.1) Tryz.underlying105 rfl (by rw [uvs_size, hlsl]; kernel_rfl)) hS0 ?_
                refine wpAnyH_one (i := 6) (by kernel_rfl) rfl rfl (fun K'' hK' => ?_)
                go_simp
                have hT11d : TabsAt (World.drew w11) K0 tsb mb c := hT11.fr ((Fr.refl No w11).drew) (no_no _) (no_no _) (fun _ _ => no_no _)
                refine (ask_any K0 tsb mb c ls (World.drew w11) hT11d ⟨hlsl, hlsd⟩ hask hgr ht0 hm0).mono ?_
                rintro e w12 ⟨tb, s1, s2, K', rfl, hTab, hTs, hG, hf12⟩
                have hG : Grow K0 K' w11 w12 := hG
                have hf12 : Fr (Duo tsb mb) w11 w12 := (Fr.refl (Duo tsb mb) w11).drew.trans hf12
                have hr12 := hr11.fr hf12 (fun h => h.elim (fun e => hrt e.symm) (fun e => hrm e.symm))
                have c8 := hr12.c8
                have f8 := hr12.fz 9
                have c5 := hr12.c5
                have f5 := hr12.fz 6
                have hS12 : w12.heap[lb]? = some (.cells (uvs ls) 105 (0, 0)) ∧ w12.cell? ⟨rb, 10, none⟩ = some (.pointer (some ⟨tsb, 0, none⟩)) := ⟨hf12.at HLB11.out (fun h => h.elim (fun e => hlbt e.symm) (fun e => hlbm e.symm)), by rw [hr12.ct]; exact congrArg some hts⟩
                refine hK' _ _ hS12 ?_
                clear hK' K''
                refine wpAnyH_take (i := 7) (v := ?_) rfl (by kernel_rfl) (by kernel_rfl) (by kernel_rfl) (fun _ _ _ h => h) (Or.inl ⟨by rfl, by intro w _; go_simp; with_reducible rfl⟩) hS12 ?_
                refine wpAnyH_take (i := 8) (v := ?_) rfl (by kernel_rfl) (by kernel_rfl) (by kernel_rfl) (fun _ _ _ h => h) (Or.inl ⟨by rfl, by intro w _; go_simp; with_reducible rfl⟩) hS12 ?_
                refine wpAnyH_one (i := 9) (by kernel_rfl) rfl rfl (fun K'' hK' => ?_)
                go_simp
                refine hK' _ _ ⟨by rw [set_other _ _ hlbr.symm]; exact hS12.1, by rw [((hr12.s8 (.pointer (some ⟨tb, 0, none⟩))).ct)]; exact congrArg some hts⟩ ?_
                clear hK' K''
                refine wpAnyH_done (by kernel_rfl) ?_ _
                go_wp2
                go_ret
                have hfin : Fr (One rb) w12 ((w12.setCell ⟨rb, 9, none⟩ (.pointer (some ⟨tb, 0, none⟩))).setCell ⟨rb, 6, none⟩ (.int .i64 4)) := ((Fr.refl _ _).setCell (fun _ => one_self rb) _).setCell (fun _ => one_self rb) _
                have hrK' : ∀ k ∈ K', k ≠ rb := fun k hk e => by
                  rcases hG.2 k hk with h | h
                  · exact hrK (e ▸ h)
                  · have := hr11.lt; omega
                rw [HD.out]
                refine ⟨((hfw10.trans (hf11.of_no (T := One rb))).mono (fun k _ e => Or.inl e)).trans ((hf12.mono (fun k _ e => Or.inr e)).trans (hfin.mono (fun k _ e => Or.inl e))), rfl, ⟨hlsl, hlsd⟩, tb, s1, s2, K', ?_, ?_, ?_, (hr12.s8 _).s5 4 4 rfl⟩
                · exact hTab.frS hfin (fun k hk => one_ne (hrK' k hk))
                · exact hTs.fr hfin (one_ne hrt) (one_ne hrm) (fun k hk => one_ne (hrK' k hk))
                · exact ⟨hG.1, fun k hk => (hG.2 k hk).imp id (fun h => ⟨by omega, Nat.lt_of_lt_of_le h.2 hfin.size⟩)⟩
              · have HD : Hid (Gz.keys d s.pos = .error 5) := by unfold Hid; rw [HC4.out, hck]; rfl
                clear hck
                obtain ⟨ty, p', rfl⟩ := hv.iface
                go_wp2
                go_ret
                rw [HD.out]
                refine ⟨hfw10.trans (hf11.of_no (T := One rb)), ?_⟩
                exact ⟨⟨_, hr10.fr hf11 (no_no _)⟩, Or.inr ⟨by omega, by omega, _, m, rfl, hv⟩⟩
      · have HD : Hid (Gz.keys d s.pos = .error 2) := by unfold Hid Gz.keys; simp only [Gz.num, if_pos h5, if_pos h10, if_neg h14, Gz.Out.bind]
        go_enter Tryz.func87, Tryz.ntmps87
        go_wp2_with fail
        refine (number_ok rb db _ d 5 _ hn hdb hr1 hd1 (by omega) h5).mono ?_
        rintro e w2 ⟨rfl, hr2, hf2⟩
        have hd2 := hd1.fr hf2 (one_ne hdb)
        go_wp2_with fail
        refine (number_ok rb db _ d 5 _ hn hdb hr2 hd2 (by omega) h10).mono ?_
        rintro e w3 ⟨rfl, hr3, hf3⟩
        have hd3 := hd2.fr hf3 (one_ne hdb)
        go_wp2_with fail
        refine (number_short rb db _ d 4 _ hn hdb hr3 hd3 (by omega) (by omega) h14).mono ?_
        rintro e w4 ⟨⟨p', m, rfl, hp'⟩, ⟨q2, hr4⟩, hf4⟩
        go_wp2
        refine bodyPost_panic rfl ?_
        rw [HD.out]
        refine ⟨hf1.trans (hf2.trans (hf3.trans hf4)), ?_⟩
        exact ⟨⟨_, hr4⟩, Or.inl ⟨rfl, p', m, rfl, hp'⟩⟩
    · have HD : Hid (Gz.keys d s.pos = .error 2) := by unfold Hid Gz.keys; simp only [Gz.num, if_pos h5, if_neg h10, Gz.Out.bind]
      go_enter Tryz.func87, Tryz.ntmps87
      go_wp2_with fail
      refine (number_ok rb db _ d 5 _ hn hdb hr1 hd1 (by omega) h5).mono ?_
      rintro e w2 ⟨rfl, hr2, hf2⟩
      have hd2 := hd1.fr hf2 (one_ne hdb)
      go_wp2_with fail
      refine (number_short rb db _ d 5 _ hn hdb hr2 hd2 (by omega) (by omega) h10).mono ?_
      rintro e w3 ⟨⟨p', m, rfl, hp'⟩, ⟨q2, hr3⟩, hf3⟩
      go_wp2
      refine bodyPost_panic rfl ?_
      rw [HD.out]
      refine ⟨hf1.trans (hf2.trans hf3), ?_⟩
      exact ⟨⟨_, hr3⟩, Or.inl ⟨rfl, p', m, rfl, hp'⟩⟩
  · have HD : Hid (Gz.keys d s.pos = .error 2) := by unfold Hid Gz.keys; simp only [Gz.num, if_neg h5, Gz.Out.bind]
    go_enter Tryz.func87, Tryz.ntmps87
    go_wp2_with fail
    refine (number_short rb db _ d 5 _ hn hdb hr1 hd1 (by omega) (by omega) h5).mono ?_
    rintro e w2 ⟨⟨p', m, rfl, hp'⟩, ⟨q2, hr2⟩, hf2⟩
    go_wp2
    refine bodyPost_panic rfl ?_
    rw [HD.out]
    refine ⟨hf1.trans hf2, ?_⟩
    exact ⟨⟨_, hr2⟩, Or.inl ⟨rfl, p', m, rfl, hp'⟩⟩
end Go.Proofs.YtjjjlilflbddoaaGreatDoor
