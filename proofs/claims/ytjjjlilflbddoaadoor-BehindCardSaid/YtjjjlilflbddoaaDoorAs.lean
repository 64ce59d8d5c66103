import Derived.Test.YtjjjlilflbddoaaDoorIs
namespace Go.Proofs.YtjjjlilflbddoaaDoor
open Go.RowKit Go.Extern.Stop Go.Stop Go.Extern

theorem asValueOf50 (t : Addr) (w : World) : (ReflectliteValue.unpack (.iface 100 (.pointer (some t)))).run Tryd.prog w
    = .ok (.agg #[.pointer (some ⟨16, 100, none⟩), .pointer (some ⟨w.heap.size, 0, none⟩), .int .u64 150]) (w.alloc (.cells #[.pointer (some t)] 100)) := by kernel_rfl
theorem asType50 (a : Addr) (w : World) : (ReflectliteValue.methodAny (ReflectliteValue.valueError "reflectlite.Value.Type" 0) (fun t _ _ _ => ReflectliteType.toType t) #[.agg #[.pointer (some ⟨16, 100, none⟩), .pointer (some a), .int .u64 150]]).run Tryd.prog w
    = .ok (.iface 171 (.agg #[.pointer (some ⟨16, 100, none⟩)])) w := by kernel_rfl
theorem asMethodKind (h : Value) (w : World) : (Go.method 377 171 (.agg #[h]) "Kind").run Tryd.prog w = .ok (173, h) w := by kernel_rfl
theorem asKind50 (w : World) : ((ReflectliteType.abiMethod fun t => (fun a : Nat => Value.int IntKind.u8 (a : Int)) <$> Rtype.kind t) #[.pointer (some ⟨16, 100, none⟩)]).run Tryd.prog w = .ok (.int .u8 22) w := by kernel_rfl
theorem asKind48 (w : World) : ((ReflectliteType.abiMethod fun t => (fun a : Nat => Value.int IntKind.u8 (a : Int)) <$> Rtype.kind t) #[.pointer (some ⟨16, 98, none⟩)]).run Tryd.prog w = .ok (.int .u8 22) w := by kernel_rfl
theorem asParts50 (a : Addr) (w : World) : (ReflectliteValue.parts (.agg #[.pointer (some ⟨16, 100, none⟩), .pointer (some a), .int .u64 150])).run Tryd.prog w = .ok (some (100, a, 150)) w := by kernel_rfl
theorem asIsNil50 (a p : Addr) (W : World) (ha : W.cell? a = some (.pointer (some p))) :
    (ReflectliteValue.method (ReflectliteValue.valueError "reflectlite.Value.IsNil" 0) ReflectliteValue.isNil #[.agg #[.pointer (some ⟨16, 100, none⟩), .pointer (some a), .int .u64 150]]).run Tryd.prog W = .ok (.bool false) W := by
  rw [show ∀ (z : Sem Value) (f : TypeId → Addr → Nat → Nat → Sem Value) (v : Value), ReflectliteValue.method z f #[v] = (ReflectliteValue.parts v >>= _) from fun _ _ _ => rfl]
  simp only [Sem.run_bind, asParts50, Result.andThen]
  simp [ReflectliteValue.isNil, loadVar, isAgg, underlying, Tryd.underlying100, ha, Result.andThen]
theorem asMethodElem (h : Value) (w : World) : (Go.method 377 171 (.agg #[h]) "Elem").run Tryd.prog w = .ok (185, .agg #[h]) w := by kernel_rfl
theorem asMethodImplements (h : Value) (w : World) : (Go.method 377 171 (.agg #[h]) "Implements").run Tryd.prog w = .ok (186, .agg #[h]) w := by kernel_rfl
theorem asMethodAssignableTo (h : Value) (w : World) : (Go.method 377 171 (.agg #[h]) "AssignableTo").run Tryd.prog w = .ok (183, .agg #[h]) w := by kernel_rfl
theorem asElem50 (w : World) : (ReflectliteType.method ReflectliteType.elem #[.agg #[.pointer (some ⟨16, 100, none⟩)]]).run Tryd.prog w = .ok (.iface 171 (.agg #[.pointer (some ⟨16, 98, none⟩)])) w := by kernel_rfl
theorem asImplements48 (w : World) : (ReflectliteType.relation "Implements" ReflectliteType.implements_ #[.agg #[.pointer (some ⟨16, 98, none⟩)], .iface 171 (.agg #[.pointer (some ⟨16, 71, none⟩)])]).run Tryd.prog w = .ok (.bool true) w := by kernel_rfl
theorem asTypeOf48 (v : Value) (w : World) : (ReflectliteType.typeOf #[.iface 98 v]).run Tryd.prog w = .ok (.iface 171 (.agg #[.pointer (some ⟨16, 98, none⟩)])) w := by kernel_rfl
theorem asTypeOf44 (v : Value) (w : World) : (ReflectliteType.typeOf #[.iface 94 v]).run Tryd.prog w = .ok (.iface 171 (.agg #[.pointer (some ⟨16, 94, none⟩)])) w := by kernel_rfl
theorem asAssignable48 (w : World) : (ReflectliteType.relation "AssignableTo" ReflectliteType.assignableTo #[.agg #[.pointer (some ⟨16, 98, none⟩)], .iface 171 (.agg #[.pointer (some ⟨16, 98, none⟩)])]).run Tryd.prog w = .ok (.bool true) w := by kernel_rfl
theorem asAssignable44 (w : World) : (ReflectliteType.relation "AssignableTo" ReflectliteType.assignableTo #[.agg #[.pointer (some ⟨16, 94, none⟩)], .iface 171 (.agg #[.pointer (some ⟨16, 98, none⟩)])]).run Tryd.prog w = .ok (.bool false) w := by kernel_rfl
theorem asAssignable133 (w : World) : (ReflectliteType.relation "AssignableTo" ReflectliteType.assignableTo #[.agg #[.pointer (some ⟨16, 245, none⟩)], .iface 171 (.agg #[.pointer (some ⟨16, 98, none⟩)])]).run Tryd.prog w = .ok (.bool false) w := by kernel_rfl
theorem asValueOf48 (e : Addr) (w : World) : (ReflectliteValue.unpack (.iface 98 (.pointer (some e)))).run Tryd.prog w
    = .ok (.agg #[.pointer (some ⟨16, 98, none⟩), .pointer (some ⟨w.heap.size, 0, none⟩), .int .u64 150]) (w.alloc (.cells #[.pointer (some e)] 98)) := by kernel_rfl
theorem asElemOf50 (w : World) : (Rtype.elem? 100).run Tryd.prog w = .ok (some 98) w := by kernel_rfl
theorem asMk48 (p : Addr) (w : World) : (ReflectliteValue.mk 98 p ReflectliteValue.flagAddr).run Tryd.prog w = .ok (.agg #[.pointer (some ⟨16, 98, none⟩), .pointer (some p), .int .u64 406]) w := by kernel_rfl
theorem asElemV50 (a p : Addr) (W : World) (ha : W.cell? a = some (.pointer (some p))) :
    (ReflectliteValue.method (ReflectliteValue.valueError "reflectlite.Value.Elem" 0) ReflectliteValue.elem #[.agg #[.pointer (some ⟨16, 100, none⟩), .pointer (some a), .int .u64 150]]).run Tryd.prog W
      = .ok (.agg #[.pointer (some ⟨16, 98, none⟩), .pointer (some p), .int .u64 406]) W := by
  rw [show ∀ (z : Sem Value) (f : TypeId → Addr → Nat → Nat → Sem Value) (v : Value), ReflectliteValue.method z f #[v] = (ReflectliteValue.parts v >>= _) from fun _ _ _ => rfl]
  simp only [Sem.run_bind, asParts50, Result.andThen]
  simp [ReflectliteValue.elem, loadVar, isAgg, underlying, Tryd.underlying100, ha, Result.andThen, asElemOf50, asMk48]
theorem asParts48a (a : Addr) (w : World) : (ReflectliteValue.parts (.agg #[.pointer (some ⟨16, 98, none⟩), .pointer (some a), .int .u64 406])).run Tryd.prog w = .ok (some (98, a, 406)) w := by kernel_rfl
theorem asParts48 (a : Addr) (w : World) : (ReflectliteValue.parts (.agg #[.pointer (some ⟨16, 98, none⟩), .pointer (some a), .int .u64 150])).run Tryd.prog w = .ok (some (98, a, 150)) w := by kernel_rfl
theorem asDirect48 (w : World) : (Rtype.directlyAssignable 98 98).run Tryd.prog w = .ok true w := by kernel_rfl
theorem asSet48 (ta b e : Addr) (old : Value) (W : World) (hb : W.cell? b = some (.pointer (some e))) (ht : W.cell? ta = some old) (hf : W.frozen? ta = false) :
    (ReflectliteValue.set #[.agg #[.pointer (some ⟨16, 98, none⟩), .pointer (some ta), .int .u64 406], .agg #[.pointer (some ⟨16, 98, none⟩), .pointer (some b), .int .u64 150]]).run Tryd.prog W
      = .ok (.tuple #[]) (W.setCell ta (.pointer (some e))) := by
  rw [show ∀ v x : Value, ReflectliteValue.set #[v, x] = (ReflectliteValue.parts v >>= fun p => ReflectliteValue.parts x >>= _) from fun _ _ => rfl]
  simp only [Sem.run_bind, asParts48a, asParts48, Result.andThen]
  simp [ReflectliteValue.flagAddr, loadVar, isAgg, underlying, Tryd.underlying98, hb, Result.andThen, asDirect48, storeVar, Value.cells, storeCells, Addr.add]
  rw [run_store Tryd.prog W ta _ _ (by rfl)]
  simp [ht, hf]
theorem noAs133 (v : Value) (xT : TypeId) (w : World) : (Instr.typeAssert (.iface 245 v) xT 175 true).run Tryd.prog w = .ok (.tuple #[.nilIface, .bool false]) w := run_typeAssert_lacksB Tryd.underlying175 (by kernel_rfl) (by kernel_rfl) v xT w
theorem noAs44 (v : Value) (xT : TypeId) (w : World) : (Instr.typeAssert (.iface 94 v) xT 175 true).run Tryd.prog w = .ok (.tuple #[.nilIface, .bool false]) w := run_typeAssert_lacksB Tryd.underlying175 (by kernel_rfl) (by kernel_rfl) v xT w

set_option maxRecDepth 100000 in
set_option maxHeartbeats 4000000 in
theorem as_any (sp : Nat → Addr) (w : World) (v0 : Value) (k n0 tb ab : Nat) (h : Err sp w v0 k n0) (ha : w.heap[ab]? = some (.cells #[.pointer (some ⟨tb, 0, none⟩)] 100 (0, 0))) (old : Value) (ht : w.heap[tb]? = some (.cells #[old] 98 (0, 0))) :
    Calls Tryd.prog 79 #[v0, .iface 100 (.pointer (some ⟨tb, 0, none⟩)), .agg #[.pointer (some ⟨16, 100, none⟩), .pointer (some ⟨ab, 0, none⟩), .int .u64 150], .iface 171 (.agg #[.pointer (some ⟨16, 98, none⟩)])] w
      fun e w' => e = .returned (.bool (decide (k = 2))) ∧ Fr (One tb) w w' := by
  have h21 := @run_callFunc_extern Tryd.prog 76 _ (fun args => ReflectliteValue.unpack (args.getD 0 (.tuple #[]))) Tryd.func76 (by kernel_rfl) (by kernel_rfl) (by kernel_rfl) (by kernel_rfl)
  have h25 := @run_callFunc_extern Tryd.prog 80 _ ReflectliteType.typeOf Tryd.func80 (by kernel_rfl) (by kernel_rfl) (by kernel_rfl) (by kernel_rfl)
  have h90 := @run_callFunc_extern Tryd.prog 183 _ (ReflectliteType.relation "AssignableTo" ReflectliteType.assignableTo) Tryd.func183 (by kernel_rfl) (by kernel_rfl) (by kernel_rfl) (by kernel_rfl)
  have h33 := @run_callFunc_extern Tryd.prog 107 _ (ReflectliteValue.method (ReflectliteValue.valueError "reflectlite.Value.Elem" 0) ReflectliteValue.elem) Tryd.func107 (by kernel_rfl) (by kernel_rfl) (by kernel_rfl) (by kernel_rfl)
  have h34 := @run_callFunc_extern Tryd.prog 108 _ ReflectliteValue.set Tryd.func108 (by kernel_rfl) (by kernel_rfl) (by kernel_rfl) (by kernel_rfl)
  have a1 := noAs133
  have a3 := noAs44
  have a4 := noUn133
  have a6 := hasUn44
  have a7 := noUns133
  have mU := methodUnwrap
  have mA := asMethodAssignableTo
  have tT := isTypeOf
  have t4 := asTypeOf44
  have t8 := asTypeOf48
  have s4 := asAssignable44
  have s8 := asAssignable48
  have s3 := asAssignable133
  have v8 := asValueOf48
  have he33 : ∀ (u : TypeId) (x : Value) (w : World), (binOp .eql 71 (.iface u x) .nilIface).run Tryd.prog w = .ok (.bool false) w := fun u x w => run_eql_held_nil w 71 u x m33
  have htl := lt_of ht
  have el := asElemV50 ⟨ab, 0, none⟩ ⟨tb, 0, none⟩ (w.alloc (.cells #[.pointer (some ⟨16, 100, none⟩), .pointer (some ⟨ab, 0, none⟩), .int .u64 150] 128)) (by rw [cell_of (alloc_old ha)]; rfl)
  go_enter Tryd.func79, Tryd.ntmps79
  go_wp2_with fail
  go_loop [0] (fun v => ∃ n, Err sp w v k n) (fun v => Classical.epsilon fun n => ∃ k, Err sp w v k n)
  case atStart => exact ⟨n0, h⟩
  case round =>
    obtain ⟨n, hE⟩ := hrel
    have hdep := hE.dep
    have HDEP := hide hdep
    clear hdep
    cases hE using Err.ways with
    | sent _ h3 h8 =>
      go_wp2
      go_ret
      have : ¬ k = 2 := by omega
      exact ⟨by simp [this], (Fr.refl _ _).alloc _⟩
    | short p m hp =>
      have st := asSet48 ⟨tb, 0, none⟩ ⟨w.heap.size + 1, 0, none⟩ ⟨p, 0, none⟩ old ((w.alloc (.cells #[.pointer (some ⟨16, 100, none⟩), .pointer (some ⟨ab, 0, none⟩), .int .u64 150] 128)).alloc (.cells #[.pointer (some ⟨p, 0, none⟩)] 98))
        (by rw [World.cell?_alloc_at _ _ _ _ (by simp)]; rfl)
        (by rw [cell_of (alloc_old (alloc_old ht))]; rfl)
        (frozen_of (alloc_old (alloc_old ht)) 0)
      go_wp2
      go_ret
      exact ⟨rfl, (((Fr.refl _ _).setCell (fun _ => one_self tb) _).alloc _).alloc _⟩
    | fault p t v _ n' hp hE' _ =>
      obtain ⟨ty, q, rfl⟩ : ∃ t p, v = .iface t (.pointer (some p)) := hE'.iface
      go_wp2_with (go_at_call 177; refine (unwrap_any p t _ _ (alloc_old hp)).mono ?_; rintro e w' ⟨rfl, rfl⟩)
      refine ⟨⟨n', hE'⟩, ?_⟩
      rw [HDEP.out, hE'.dep]; omega

set_option maxRecDepth 100000 in
set_option maxHeartbeats 4000000 in
theorem As_any (sp : Nat → Addr) (w : World) (v0 : Value) (k n0 tb : Nat) (hE : Env sp w) (h : Err sp w v0 k n0) (old : Value) (ht : w.heap[tb]? = some (.cells #[old] 98 (0, 0))) :
    Calls Tryd.prog 53 #[v0, .iface 100 (.pointer (some ⟨tb, 0, none⟩))] w fun e w' => e = .returned (.bool (decide (k = 2))) ∧ Fr (One tb) w w' := by
  have h21 := @run_callFunc_extern Tryd.prog 76 _ (fun args => ReflectliteValue.unpack (args.getD 0 (.tuple #[]))) Tryd.func76 (by kernel_rfl) (by kernel_rfl) (by kernel_rfl) (by kernel_rfl)
  have h22 := @run_callFunc_extern Tryd.prog 77 _ (ReflectliteValue.methodAny (ReflectliteValue.valueError "reflectlite.Value.Type" 0) (fun t _ _ _ => ReflectliteType.toType t)) Tryd.func77 (by kernel_rfl) (by kernel_rfl) (by kernel_rfl) (by kernel_rfl)
  have h23 := @run_callFunc_extern Tryd.prog 78 _ (ReflectliteValue.method (ReflectliteValue.valueError "reflectlite.Value.IsNil" 0) ReflectliteValue.isNil) Tryd.func78 (by kernel_rfl) (by kernel_rfl) (by kernel_rfl) (by kernel_rfl)
  have h80 := @run_callFunc_extern Tryd.prog 173 _ (ReflectliteType.abiMethod fun t => do pure (.int .u8 (← Rtype.kind t))) Tryd.func173 (by kernel_rfl) (by kernel_rfl) (by kernel_rfl) (by kernel_rfl)
  have h92 := @run_callFunc_extern Tryd.prog 185 _ (ReflectliteType.method ReflectliteType.elem) Tryd.func185 (by kernel_rfl) (by kernel_rfl) (by kernel_rfl) (by kernel_rfl)
  have h93 := @run_callFunc_extern Tryd.prog 186 _ (ReflectliteType.relation "Implements" ReflectliteType.implements_) Tryd.func186 (by kernel_rfl) (by kernel_rfl) (by kernel_rfl) (by kernel_rfl)
  have he33 : ∀ (u : TypeId) (x : Value) (w : World), (binOp .eql 71 (.iface u x) .nilIface).run Tryd.prog w = .ok (.bool false) w := fun u x w => run_eql_held_nil w 71 u x m33
  have m20 : Tryd.prog.underlying 20 = some (.interface (Tryd.prog.methodsAt 20)) := by kernel_rfl
  have he20 : ∀ (u : TypeId) (x : Value) (w : World), (binOp .eql 20 (.iface u x) .nilIface).run Tryd.prog w = .ok (.bool false) w := fun u x w => run_eql_held_nil w 20 u x m20
  have f6 := asValueOf50
  have f7 := asType50
  have mK := asMethodKind
  have mE := asMethodElem
  have mI := asMethodImplements
  have k5 := asKind50
  have k4 := asKind48
  have e5 := asElem50
  have i4 := asImplements48
  obtain ⟨ty, q, rfl⟩ : ∃ t p, v0 = .iface t (.pointer (some p)) := h.iface
  have hsz := hE.size
  have hb0 : (w.alloc (.cells #[.pointer (some ⟨tb, 0, none⟩)] 100)).heap[w.heap.size]? = some (.cells #[.pointer (some ⟨tb, 0, none⟩)] 100 (0, 0)) := alloc_at _ _
  have n8 := asIsNil50 ⟨w.heap.size, 0, none⟩ ⟨tb, 0, none⟩ ((w.alloc (.cells #[.pointer (some ⟨tb, 0, none⟩)] 100)).alloc (.cells #[.pointer (some ⟨16, 100, none⟩), .pointer (some ⟨w.heap.size, 0, none⟩), .int .u64 150] 128)) (by rw [cell_of (alloc_old hb0)]; rfl)
  have hg2 : ((w.alloc (.cells #[.pointer (some ⟨tb, 0, none⟩)] 100)).alloc (.cells #[.pointer (some ⟨16, 100, none⟩), .pointer (some ⟨w.heap.size, 0, none⟩), .int .u64 150] 128)).cell? ⟨7, 0, none⟩ = some (.iface 171 (.agg #[.pointer (some ⟨16, 71, none⟩)])) := by
    rw [World.cell?_alloc_lt _ _ ⟨7, 0, none⟩ (by simp; omega), World.cell?_alloc_lt _ _ ⟨7, 0, none⟩ (by show 7 < _; omega)]; exact hE.typ
  have hfr : Fr No w ((w.alloc (.cells #[.pointer (some ⟨tb, 0, none⟩)] 100)).alloc (.cells #[.pointer (some ⟨16, 100, none⟩), .pointer (some ⟨w.heap.size, 0, none⟩), .int .u64 150] 128)) := ((Fr.refl _ _).alloc _).alloc _
  have hcall := as_any sp _ (.iface ty (.pointer (some q))) k n0 tb w.heap.size (h.fr hfr) (alloc_old hb0) old (alloc_old (alloc_old ht))
  have HC := hide hcall
  have HF := hide hfr
  clear hcall hfr
  go_enter Tryd.func53, Tryd.ntmps53
  go_wp2_with (go_at_call 79; refine HC.out.mono ?_; rintro e w' ⟨rfl, hf⟩)
  go_ret
  exact ⟨rfl, HF.out.of_no.trans hf⟩
end Go.Proofs.YtjjjlilflbddoaaDoor
