import Derived.Test.YtjjjlilflbddoaaGreatDoorGDist
import Derived.LaidEql
import Derived.Stop.Asserts
import Derived.RowKitTokens
namespace Go.Proofs.YtjjjlilflbddoaaGreatDoor
open Go.RowKit Go.Extern.Stop Go.Stop Go.Extern

theorem isTypeOf (v : Value) (w : World) : (Extern.ReflectliteType.typeOf #[.iface 248 v]).run Tryz.prog w = .ok (.iface 159 (.agg #[.pointer (some ⟨16, 248, none⟩)])) w := by kernel_rfl
theorem isComparable (w : World) : ((Extern.ReflectliteType.method fun t => do Extern.Rtype.noPackHeld "Comparable" t; pure (.bool (← typeInfo t).comparable)) #[.agg #[.pointer (some ⟨16, 248, none⟩)]]).run Tryz.prog w = .ok (.bool true) w := by kernel_rfl
theorem isMethodComparable (v : Value) (w : World) : (Go.method 380 159 v "Comparable").run Tryz.prog w = .ok (179, v) w := by kernel_rfl
theorem isComp : (Tryz.prog.info? 248).map (·.comparable) = some true := by kernel_rfl
theorem isSize : (Tryz.prog.info? 268).map (·.size) = some 1 := by kernel_rfl
theorem noIs133 (v : Value) (xT : TypeId) (w : World) : (Instr.typeAssert (.iface 248 v) xT 170 true).run Tryz.prog w = .ok (.tuple #[.nilIface, .bool false]) w := run_typeAssert_lacksB Tryz.underlying170 (by kernel_rfl) (by kernel_rfl) v xT w
theorem noIs48 (v : Value) (xT : TypeId) (w : World) : (Instr.typeAssert (.iface 91 v) xT 170 true).run Tryz.prog w = .ok (.tuple #[.nilIface, .bool false]) w := run_typeAssert_lacksB Tryz.underlying170 (by kernel_rfl) (by kernel_rfl) v xT w
theorem noIs44 (v : Value) (xT : TypeId) (w : World) : (Instr.typeAssert (.iface 87 v) xT 170 true).run Tryz.prog w = .ok (.tuple #[.nilIface, .bool false]) w := run_typeAssert_lacksB Tryz.underlying170 (by kernel_rfl) (by kernel_rfl) v xT w
theorem noUn133 (v : Value) (xT : TypeId) (w : World) : (Instr.typeAssert (.iface 248 v) xT 166 true).run Tryz.prog w = .ok (.tuple #[.nilIface, .bool false]) w := run_typeAssert_lacksB Tryz.underlying166 (by kernel_rfl) (by kernel_rfl) v xT w
theorem noUn48 (v : Value) (xT : TypeId) (w : World) : (Instr.typeAssert (.iface 91 v) xT 166 true).run Tryz.prog w = .ok (.tuple #[.nilIface, .bool false]) w := run_typeAssert_lacksB Tryz.underlying166 (by kernel_rfl) (by kernel_rfl) v xT w
theorem hasUn44 (v : Value) (xT : TypeId) (w : World) : (Instr.typeAssert (.iface 87 v) xT 166 true).run Tryz.prog w = .ok (.tuple #[.iface 87 v, .bool true]) w := run_typeAssert_hasB Tryz.underlying166 (by kernel_rfl) v xT w
theorem noUns133 (v : Value) (xT : TypeId) (w : World) : (Instr.typeAssert (.iface 248 v) xT 167 true).run Tryz.prog w = .ok (.tuple #[.nilIface, .bool false]) w := run_typeAssert_lacksB Tryz.underlying167 (by kernel_rfl) (by kernel_rfl) v xT w
theorem noUns48 (v : Value) (xT : TypeId) (w : World) : (Instr.typeAssert (.iface 91 v) xT 167 true).run Tryz.prog w = .ok (.tuple #[.nilIface, .bool false]) w := run_typeAssert_lacksB Tryz.underlying167 (by kernel_rfl) (by kernel_rfl) v xT w
theorem methodUnwrap (v : Value) (w : World) : (Go.method 380 87 v "Unwrap").run Tryz.prog w = .ok (172, v) w := by kernel_rfl

/-- How deep an error is wrapped is told by the error. -/
theorem Err.unique {sp : Nat → Addr} {w : World} {v : Value} {k n : Nat} (h : Err sp w v k n) : ∀ {k' n' : Nat}, Err sp w v k' n' → n = n' := by
  induction h using Err.ways with
  | sent k h3 h8 =>
    intro k' n' h'
    cases n' with
    | zero => rfl
    | succ n' => obtain ⟨p, t, v', _, e, _⟩ := h'; injection e with e1; exact absurd e1 (by decide)
  | short p m h =>
    intro k' n' h'
    cases n' with
    | zero => rfl
    | succ n' => obtain ⟨p, t, v', _, e, _⟩ := h'; injection e with e1; exact absurd e1 (by decide)
  | fault p t v k n h he ih =>
    intro k' n' h'
    cases n' with
    | zero =>
      rcases h' with ⟨_, _, e⟩ | ⟨_, p, m, _, e⟩
      · injection e with e1; exact absurd e1 (by decide)
      · injection e with e1; exact absurd e1 (by decide)
    | succ n' =>
      obtain ⟨p', t', v', h'', e, he'⟩ := h'
      injection e with e1 e2
      injection e2 with e3
      injection e3 with e4
      injection e4 with e5
      subst e5
      rw [h] at h''
      injection h'' with h''
      injection h'' with h''
      have : v = v' := by have := congrArg (fun a : Array Value => a[1]?) h''; simpa using this
      subst this
      rw [ih he']
theorem Err.dep {sp : Nat → Addr} {w : World} {v : Value} {k n : Nat} (h : Err sp w v k n) : (Classical.epsilon fun n => ∃ k, Err sp w v k n) = n := by
  have : ∃ k', Err sp w v k' (Classical.epsilon fun n => ∃ k, Err sp w v k n) := Classical.epsilon_spec (p := fun n => ∃ k, Err sp w v k n) ⟨n, k, h⟩
  obtain ⟨k', h'⟩ := this
  exact (h.unique h').symm

/-- Where the errors lie. -/
def Blk (sp : Nat → Addr) (w : World) : Prop := ∀ k, 3 ≤ k → k ≤ 10 → ∃ c t, w.heap[(sp k).block]? = some (.cells c t (0, 0))

theorem unwrap_any (p : Nat) (t : ByteArray) (v : Value) (w : World) (h : w.heap[p]? = some (.cells #[.string t, v] 90 (0, 0))) :
    Calls Tryz.prog 172 #[.pointer (some ⟨p, 0, none⟩)] w fun e w' => e = .returned v ∧ w' = w := by
  have c1 : w.cell? ⟨p, 1, none⟩ = some v := by rw [cell_of h]; rfl
  go_enter Tryz.func172, Tryz.ntmps172
  go_wp2
  go_ret
  exact ⟨rfl, rfl⟩

set_option maxRecDepth 100000 in
set_option maxHeartbeats 4000000 in
theorem is_any (sp : Nat → Addr) (j : Nat) (w : World) (v0 : Value) (k n0 : Nat) (hj3 : 3 ≤ j) (hj8 : j ≤ 10) (hinj : ∀ j k, 3 ≤ j → j ≤ 10 → 3 ≤ k → k ≤ 10 → sp j = sp k → j = k) (hB : Blk sp w) (h : Err sp w v0 k n0) :
    Calls Tryz.prog 62 #[v0, .iface 248 (.pointer (some (sp j))), .bool true] w fun e w' => e = .returned (.bool (decide (k = j))) ∧ w' = w := by
  obtain ⟨i, hi, hcmp⟩ := Option.map_eq_some_iff.1 isComp
  obtain ⟨jj, hjj, hjs⟩ := Option.map_eq_some_iff.1 isSize
  have a1 := noIs133
  have a2 := noIs48
  have a3 := noIs44
  have a4 := noUn133
  have a5 := noUn48
  have a6 := hasUn44
  have a7 := noUns133
  have a8 := noUns48
  have mU := methodUnwrap
  have he33 : ∀ (u : TypeId) (x : Value) (w : World), (binOp .eql 55 (.iface u x) .nilIface).run Tryz.prog w = .ok (.bool false) w := fun u x w => run_eql_held_nil w 55 u x m33
  go_enter Tryz.func62, Tryz.ntmps62
  go_wp2_with fail
  go_loop [0] (fun v => ∃ n, Err sp w v k n) (fun v => Classical.epsilon fun n => ∃ k, Err sp w v k n)
  case atStart => exact ⟨n0, h⟩
  case round =>
    obtain ⟨n, hE⟩ := hrel
    have hdep := hE.dep
    have HDEP := hide hdep
    clear hdep
    cases hE using Err.ways with
    | sent _ h3 h8 =>
      by_cases hkj : k = j
      · subst hkj
        have heq := run_eql_iface_ptr_same (P := Tryz.prog) w (sp k) Tryz.underlying55 Tryz.underlying248 hi hcmp hjj
        go_wp2
        go_ret
        exact ⟨by simp, rfl⟩
      · obtain ⟨ca, ta, hca⟩ := hB k h3 (by omega)
        obtain ⟨cb, tb, hcb⟩ := hB j hj3 hj8
        have heq := run_eql_iface_ptr_other (P := Tryz.prog) w Tryz.underlying55 Tryz.underlying248 hi hcmp hjj (by rw [hjs]; decide) (fun e => hkj (hinj k j h3 (by omega) hj3 hj8 e)) hca hcb
        go_wp2
        go_ret
        exact ⟨by simp, rfl⟩
    | short p m hp =>
      have heq := run_eql_iface_types (P := Tryz.prog) 91 248 (.pointer (some ⟨p, 0, none⟩)) (.pointer (some (sp j))) Tryz.underlying55 (by decide) w
      have hkj : ¬ 2 = j := by omega
      go_wp2
      go_ret
      exact ⟨by simp, rfl⟩
    | fault p t v _ n' hp hE' _ =>
      have heq := run_eql_iface_types (P := Tryz.prog) 87 248 (.pointer (some ⟨p, 0, none⟩)) (.pointer (some (sp j))) Tryz.underlying55 (by decide) w
      obtain ⟨ty, q, rfl⟩ : ∃ t p, v = .iface t (.pointer (some p)) := hE'.iface
      go_wp2_with (go_at_call 172; refine (unwrap_any p t _ _ hp).mono ?_; rintro e w' ⟨rfl, rfl⟩)
      refine ⟨⟨n', hE'⟩, ?_⟩
      rw [HDEP.out, hE'.dep]; omega

set_option maxRecDepth 100000 in
set_option maxHeartbeats 1600000 in
theorem Is_any (sp : Nat → Addr) (j : Nat) (w : World) (v0 : Value) (k n0 : Nat) (hj3 : 3 ≤ j) (hj8 : j ≤ 10) (hinj : ∀ j k, 3 ≤ j → j ≤ 10 → 3 ≤ k → k ≤ 10 → sp j = sp k → j = k) (hB : Blk sp w) (h : Err sp w v0 k n0) :
    Calls Tryz.prog 39 #[v0, .iface 248 (.pointer (some (sp j)))] w fun e w' => e = .returned (.bool (decide (k = j))) ∧ w' = w := by
  have h25 := @run_callFunc_extern Tryz.prog 61 _ Extern.ReflectliteType.typeOf Tryz.func61 (by kernel_rfl) (by kernel_rfl) (by kernel_rfl) (by kernel_rfl)
  have h91 : ∀ w, Sem.run Tryz.prog (callFunc 179 #[.agg #[.pointer (some ⟨16, 248, none⟩)]]) w = .ok (.value (.bool true)) w := fun w => by
    rw [@run_callFunc_extern Tryz.prog 179 _ (Extern.ReflectliteType.method fun t => do Extern.Rtype.noPackHeld "Comparable" t; pure (.bool (← typeInfo t).comparable)) Tryz.func179 (by kernel_rfl) (by kernel_rfl) (by kernel_rfl) (by kernel_rfl), isComparable]; rfl
  have tT := isTypeOf
  have mR := isMethodComparable
  have he33 : ∀ (u : TypeId) (x : Value) (w : World), (binOp .eql 55 (.iface u x) .nilIface).run Tryz.prog w = .ok (.bool false) w := fun u x w => run_eql_held_nil w 55 u x m33
  obtain ⟨ty, q, rfl⟩ : ∃ t p, v0 = .iface t (.pointer (some p)) := h.iface
  go_enter Tryz.func39, Tryz.ntmps39
  go_wp2_with (go_at_call 62; refine (is_any sp j _ _ k n0 hj3 hj8 hinj hB h).mono ?_; rintro e w' ⟨rfl, rfl⟩)
  go_ret
  exact ⟨rfl, rfl⟩
end Go.Proofs.YtjjjlilflbddoaaGreatDoor
namespace Go.Proofs.YtjjjlilflbddoaaGreatDoor
open Go.RowKit Go.Extern.Stop Go.Stop Go.Extern

theorem asValueOf50 (t : Addr) (w : World) : (ReflectliteValue.unpack (.iface 93 (.pointer (some t)))).run Tryz.prog w
    = .ok (.agg #[.pointer (some ⟨16, 93, none⟩), .pointer (some ⟨w.heap.size, 0, none⟩), .int .u64 150]) (w.alloc (.cells #[.pointer (some t)] 93)) := by kernel_rfl
theorem asType50 (a : Addr) (w : World) : (ReflectliteValue.methodAny (ReflectliteValue.valueError "reflectlite.Value.Type" 0) (fun t _ _ _ => ReflectliteType.toType t) #[.agg #[.pointer (some ⟨16, 93, none⟩), .pointer (some a), .int .u64 150]]).run Tryz.prog w
    = .ok (.iface 159 (.agg #[.pointer (some ⟨16, 93, none⟩)])) w := by kernel_rfl
theorem asMethodKind (h : Value) (w : World) : (Go.method 380 159 (.agg #[h]) "Kind").run Tryz.prog w = .ok (168, h) w := by kernel_rfl
theorem asKind50 (w : World) : ((ReflectliteType.abiMethod fun t => (fun a : Nat => Value.int IntKind.u8 (a : Int)) <$> Rtype.kind t) #[.pointer (some ⟨16, 93, none⟩)]).run Tryz.prog w = .ok (.int .u8 22) w := by kernel_rfl
theorem asKind48 (w : World) : ((ReflectliteType.abiMethod fun t => (fun a : Nat => Value.int IntKind.u8 (a : Int)) <$> Rtype.kind t) #[.pointer (some ⟨16, 91, none⟩)]).run Tryz.prog w = .ok (.int .u8 22) w := by kernel_rfl
theorem asParts50 (a : Addr) (w : World) : (ReflectliteValue.parts (.agg #[.pointer (some ⟨16, 93, none⟩), .pointer (some a), .int .u64 150])).run Tryz.prog w = .ok (some (93, a, 150)) w := by kernel_rfl
theorem asIsNil50 (a p : Addr) (W : World) (ha : W.cell? a = some (.pointer (some p))) :
    (ReflectliteValue.method (ReflectliteValue.valueError "reflectlite.Value.IsNil" 0) ReflectliteValue.isNil #[.agg #[.pointer (some ⟨16, 93, none⟩), .pointer (some a), .int .u64 150]]).run Tryz.prog W = .ok (.bool false) W := by
  rw [show ∀ (z : Sem Value) (f : TypeId → Addr → Nat → Nat → Sem Value) (v : Value), ReflectliteValue.method z f #[v] = (ReflectliteValue.parts v >>= _) from fun _ _ _ => rfl]
  simp only [Sem.run_bind, asParts50, Result.andThen]
  simp [ReflectliteValue.isNil, loadVar, isAgg, underlying, Tryz.underlying93, ha, Result.andThen]
theorem asMethodElem (h : Value) (w : World) : (Go.method 380 159 (.agg #[h]) "Elem").run Tryz.prog w = .ok (180, .agg #[h]) w := by kernel_rfl
theorem asMethodImplements (h : Value) (w : World) : (Go.method 380 159 (.agg #[h]) "Implements").run Tryz.prog w = .ok (181, .agg #[h]) w := by kernel_rfl
theorem asMethodAssignableTo (h : Value) (w : World) : (Go.method 380 159 (.agg #[h]) "AssignableTo").run Tryz.prog w = .ok (178, .agg #[h]) w := by kernel_rfl
theorem asElem50 (w : World) : (ReflectliteType.method ReflectliteType.elem #[.agg #[.pointer (some ⟨16, 93, none⟩)]]).run Tryz.prog w = .ok (.iface 159 (.agg #[.pointer (some ⟨16, 91, none⟩)])) w := by kernel_rfl
theorem asImplements48 (w : World) : (ReflectliteType.relation "Implements" ReflectliteType.implements_ #[.agg #[.pointer (some ⟨16, 91, none⟩)], .iface 159 (.agg #[.pointer (some ⟨16, 55, none⟩)])]).run Tryz.prog w = .ok (.bool true) w := by kernel_rfl
theorem asTypeOf48 (v : Value) (w : World) : (ReflectliteType.typeOf #[.iface 91 v]).run Tryz.prog w = .ok (.iface 159 (.agg #[.pointer (some ⟨16, 91, none⟩)])) w := by kernel_rfl
theorem asTypeOf44 (v : Value) (w : World) : (ReflectliteType.typeOf #[.iface 87 v]).run Tryz.prog w = .ok (.iface 159 (.agg #[.pointer (some ⟨16, 87, none⟩)])) w := by kernel_rfl
theorem asAssignable48 (w : World) : (ReflectliteType.relation "AssignableTo" ReflectliteType.assignableTo #[.agg #[.pointer (some ⟨16, 91, none⟩)], .iface 159 (.agg #[.pointer (some ⟨16, 91, none⟩)])]).run Tryz.prog w = .ok (.bool true) w := by kernel_rfl
theorem asAssignable44 (w : World) : (ReflectliteType.relation "AssignableTo" ReflectliteType.assignableTo #[.agg #[.pointer (some ⟨16, 87, none⟩)], .iface 159 (.agg #[.pointer (some ⟨16, 91, none⟩)])]).run Tryz.prog w = .ok (.bool false) w := by kernel_rfl
theorem asAssignable133 (w : World) : (ReflectliteType.relation "AssignableTo" ReflectliteType.assignableTo #[.agg #[.pointer (some ⟨16, 248, none⟩)], .iface 159 (.agg #[.pointer (some ⟨16, 91, none⟩)])]).run Tryz.prog w = .ok (.bool false) w := by kernel_rfl
theorem asValueOf48 (e : Addr) (w : World) : (ReflectliteValue.unpack (.iface 91 (.pointer (some e)))).run Tryz.prog w
    = .ok (.agg #[.pointer (some ⟨16, 91, none⟩), .pointer (some ⟨w.heap.size, 0, none⟩), .int .u64 150]) (w.alloc (.cells #[.pointer (some e)] 91)) := by kernel_rfl
theorem asElemOf50 (w : World) : (Rtype.elem? 93).run Tryz.prog w = .ok (some 91) w := by kernel_rfl
theorem asMk48 (p : Addr) (w : World) : (ReflectliteValue.mk 91 p ReflectliteValue.flagAddr).run Tryz.prog w = .ok (.agg #[.pointer (some ⟨16, 91, none⟩), .pointer (some p), .int .u64 406]) w := by kernel_rfl
theorem asElemV50 (a p : Addr) (W : World) (ha : W.cell? a = some (.pointer (some p))) :
    (ReflectliteValue.method (ReflectliteValue.valueError "reflectlite.Value.Elem" 0) ReflectliteValue.elem #[.agg #[.pointer (some ⟨16, 93, none⟩), .pointer (some a), .int .u64 150]]).run Tryz.prog W
      = .ok (.agg #[.pointer (some ⟨16, 91, none⟩), .pointer (some p), .int .u64 406]) W := by
  rw [show ∀ (z : Sem Value) (f : TypeId → Addr → Nat → Nat → Sem Value) (v : Value), ReflectliteValue.method z f #[v] = (ReflectliteValue.parts v >>= _) from fun _ _ _ => rfl]
  simp only [Sem.run_bind, asParts50, Result.andThen]
  simp [ReflectliteValue.elem, loadVar, isAgg, underlying, Tryz.underlying93, ha, Result.andThen, asElemOf50, asMk48]
theorem asParts48a (a : Addr) (w : World) : (ReflectliteValue.parts (.agg #[.pointer (some ⟨16, 91, none⟩), .pointer (some a), .int .u64 406])).run Tryz.prog w = .ok (some (91, a, 406)) w := by kernel_rfl
theorem asParts48 (a : Addr) (w : World) : (ReflectliteValue.parts (.agg #[.pointer (some ⟨16, 91, none⟩), .pointer (some a), .int .u64 150])).run Tryz.prog w = .ok (some (91, a, 150)) w := by kernel_rfl
theorem asDirect48 (w : World) : (Rtype.directlyAssignable 91 91).run Tryz.prog w = .ok true w := by kernel_rfl
theorem asSet48 (ta b e : Addr) (old : Value) (W : World) (hb : W.cell? b = some (.pointer (some e))) (ht : W.cell? ta = some old) (hf : W.frozen? ta = false) :
    (ReflectliteValue.set #[.agg #[.pointer (some ⟨16, 91, none⟩), .pointer (some ta), .int .u64 406], .agg #[.pointer (some ⟨16, 91, none⟩), .pointer (some b), .int .u64 150]]).run Tryz.prog W
      = .ok (.tuple #[]) (W.setCell ta (.pointer (some e))) := by
  rw [show ∀ v x : Value, ReflectliteValue.set #[v, x] = (ReflectliteValue.parts v >>= fun p => ReflectliteValue.parts x >>= _) from fun _ _ => rfl]
  simp only [Sem.run_bind, asParts48a, asParts48, Result.andThen]
  simp [ReflectliteValue.flagAddr, loadVar, isAgg, underlying, Tryz.underlying91, hb, Result.andThen, asDirect48, storeVar, Value.cells, storeCells, Addr.add]
  rw [run_store Tryz.prog W ta _ _ (by rfl)]
  simp [ht, hf]
theorem noAs133 (v : Value) (xT : TypeId) (w : World) : (Instr.typeAssert (.iface 248 v) xT 163 true).run Tryz.prog w = .ok (.tuple #[.nilIface, .bool false]) w := run_typeAssert_lacksB Tryz.underlying163 (by kernel_rfl) (by kernel_rfl) v xT w
theorem noAs44 (v : Value) (xT : TypeId) (w : World) : (Instr.typeAssert (.iface 87 v) xT 163 true).run Tryz.prog w = .ok (.tuple #[.nilIface, .bool false]) w := run_typeAssert_lacksB Tryz.underlying163 (by kernel_rfl) (by kernel_rfl) v xT w

set_option maxRecDepth 100000 in
set_option maxHeartbeats 4000000 in
theorem as_any (sp : Nat → Addr) (w : World) (v0 : Value) (k n0 tb ab : Nat) (h : Err sp w v0 k n0) (ha : w.heap[ab]? = some (.cells #[.pointer (some ⟨tb, 0, none⟩)] 93 (0, 0))) (old : Value) (ht : w.heap[tb]? = some (.cells #[old] 91 (0, 0))) :
    Calls Tryz.prog 60 #[v0, .iface 93 (.pointer (some ⟨tb, 0, none⟩)), .agg #[.pointer (some ⟨16, 93, none⟩), .pointer (some ⟨ab, 0, none⟩), .int .u64 150], .iface 159 (.agg #[.pointer (some ⟨16, 91, none⟩)])] w
      fun e w' => e = .returned (.bool (decide (k = 2))) ∧ Fr (One tb) w w' := by
  have h21 := @run_callFunc_extern Tryz.prog 57 _ (fun args => ReflectliteValue.unpack (args.getD 0 (.tuple #[]))) Tryz.func57 (by kernel_rfl) (by kernel_rfl) (by kernel_rfl) (by kernel_rfl)
  have h25 := @run_callFunc_extern Tryz.prog 61 _ ReflectliteType.typeOf Tryz.func61 (by kernel_rfl) (by kernel_rfl) (by kernel_rfl) (by kernel_rfl)
  have h90 := @run_callFunc_extern Tryz.prog 178 _ (ReflectliteType.relation "AssignableTo" ReflectliteType.assignableTo) Tryz.func178 (by kernel_rfl) (by kernel_rfl) (by kernel_rfl) (by kernel_rfl)
  have h33 := @run_callFunc_extern Tryz.prog 90 _ (ReflectliteValue.method (ReflectliteValue.valueError "reflectlite.Value.Elem" 0) ReflectliteValue.elem) Tryz.func90 (by kernel_rfl) (by kernel_rfl) (by kernel_rfl) (by kernel_rfl)
  have h34 := @run_callFunc_extern Tryz.prog 91 _ ReflectliteValue.set Tryz.func91 (by kernel_rfl) (by kernel_rfl) (by kernel_rfl) (by kernel_rfl)
  have a1 := noAs133
  have a3 := noAs44
  have a4 := noUn133
  have a6 := hasUn44
  have a7 := noUns133
  have mU := methodUnwrap
  have mA := asMethodAssignableTo
  have tT := isTypeOf
  have t4 := asTypeOf44
  have t8 := asTypeOf48
  have s4 := asAssignable44
  have s8 := asAssignable48
  have s3 := asAssignable133
  have v8 := asValueOf48
  have he33 : ∀ (u : TypeId) (x : Value) (w : World), (binOp .eql 55 (.iface u x) .nilIface).run Tryz.prog w = .ok (.bool false) w := fun u x w => run_eql_held_nil w 55 u x m33
  have htl := lt_of ht
  have el := asElemV50 ⟨ab, 0, none⟩ ⟨tb, 0, none⟩ (w.alloc (.cells #[.pointer (some ⟨16, 93, none⟩), .pointer (some ⟨ab, 0, none⟩), .int .u64 150] 116)) (by rw [cell_of (alloc_old ha)]; rfl)
  go_enter Tryz.func60, Tryz.ntmps60
  go_wp2_with fail
  go_loop [0] (fun v => ∃ n, Err sp w v k n) (fun v => Classical.epsilon fun n => ∃ k, Err sp w v k n)
  case atStart => exact ⟨n0, h⟩
  case round =>
    obtain ⟨n, hE⟩ := hrel
    have hdep := hE.dep
    have HDEP := hide hdep
    clear hdep
    cases hE using Err.ways with
    | sent _ h3 h8 =>
      go_wp2
      go_ret
      have : ¬ k = 2 := by omega
      exact ⟨by simp [this], (Fr.refl _ _).alloc _⟩
    | short p m hp =>
      have st := asSet48 ⟨tb, 0, none⟩ ⟨w.heap.size + 1, 0, none⟩ ⟨p, 0, none⟩ old ((w.alloc (.cells #[.pointer (some ⟨16, 93, none⟩), .pointer (some ⟨ab, 0, none⟩), .int .u64 150] 116)).alloc (.cells #[.pointer (some ⟨p, 0, none⟩)] 91))
        (by rw [World.cell?_alloc_at _ _ _ _ (by simp)]; rfl)
        (by rw [cell_of (alloc_old (alloc_old ht))]; rfl)
        (frozen_of (alloc_old (alloc_old ht)) 0)
      go_wp2
      go_ret
      exact ⟨rfl, (((Fr.refl _ _).setCell (fun _ => one_self tb) _).alloc _).alloc _⟩
    | fault p t v _ n' hp hE' _ =>
      obtain ⟨ty, q, rfl⟩ : ∃ t p, v = .iface t (.pointer (some p)) := hE'.iface
      go_wp2_with (go_at_call 172; refine (unwrap_any p t _ _ (alloc_old hp)).mono ?_; rintro e w' ⟨rfl, rfl⟩)
      refine ⟨⟨n', hE'⟩, ?_⟩
      rw [HDEP.out, hE'.dep]; omega

set_option maxRecDepth 100000 in
set_option maxHeartbeats 4000000 in
theorem As_any (sp : Nat → Addr) (w : World) (v0 : Value) (k n0 tb : Nat) (hE : Env sp w) (h : Err sp w v0 k n0) (old : Value) (ht : w.heap[tb]? = some (.cells #[old] 91 (0, 0))) :
    Calls Tryz.prog 38 #[v0, .iface 93 (.pointer (some ⟨tb, 0, none⟩))] w fun e w' => e = .returned (.bool (decide (k = 2))) ∧ Fr (One tb) w w' := by
  have h21 := @run_callFunc_extern Tryz.prog 57 _ (fun args => ReflectliteValue.unpack (args.getD 0 (.tuple #[]))) Tryz.func57 (by kernel_rfl) (by kernel_rfl) (by kernel_rfl) (by kernel_rfl)
  have h22 := @run_callFunc_extern Tryz.prog 58 _ (ReflectliteValue.methodAny (ReflectliteValue.valueError "reflectlite.Value.Type" 0) (fun t _ _ _ => ReflectliteType.toType t)) Tryz.func58 (by kernel_rfl) (by kernel_rfl) (by kernel_rfl) (by kernel_rfl)
  have h23 := @run_callFunc_extern Tryz.prog 59 _ (ReflectliteValue.method (ReflectliteValue.valueError "reflectlite.Value.IsNil" 0) ReflectliteValue.isNil) Tryz.func59 (by kernel_rfl) (by kernel_rfl) (by kernel_rfl) (by kernel_rfl)
  have h80 := @run_callFunc_extern Tryz.prog 168 _ (ReflectliteType.abiMethod fun t => do pure (.int .u8 (← Rtype.kind t))) Tryz.func168 (by kernel_rfl) (by kernel_rfl) (by kernel_rfl) (by kernel_rfl)
  have h92 := @run_callFunc_extern Tryz.prog 180 _ (ReflectliteType.method ReflectliteType.elem) Tryz.func180 (by kernel_rfl) (by kernel_rfl) (by kernel_rfl) (by kernel_rfl)
  have h93 := @run_callFunc_extern Tryz.prog 181 _ (ReflectliteType.relation "Implements" ReflectliteType.implements_) Tryz.func181 (by kernel_rfl) (by kernel_rfl) (by kernel_rfl) (by kernel_rfl)
  have he33 : ∀ (u : TypeId) (x : Value) (w : World), (binOp .eql 55 (.iface u x) .nilIface).run Tryz.prog w = .ok (.bool false) w := fun u x w => run_eql_held_nil w 55 u x m33
  have m20 : Tryz.prog.underlying 20 = some (.interface (Tryz.prog.methodsAt 20)) := by kernel_rfl
  have he20 : ∀ (u : TypeId) (x : Value) (w : World), (binOp .eql 20 (.iface u x) .nilIface).run Tryz.prog w = .ok (.bool false) w := fun u x w => run_eql_held_nil w 20 u x m20
  have f6 := asValueOf50
  have f7 := asType50
  have mK := asMethodKind
  have mE := asMethodElem
  have mI := asMethodImplements
  have k5 := asKind50
  have k4 := asKind48
  have e5 := asElem50
  have i4 := asImplements48
  obtain ⟨ty, q, rfl⟩ : ∃ t p, v0 = .iface t (.pointer (some p)) := h.iface
  have hsz := hE.size
  have hb0 : (w.alloc (.cells #[.pointer (some ⟨tb, 0, none⟩)] 93)).heap[w.heap.size]? = some (.cells #[.pointer (some ⟨tb, 0, none⟩)] 93 (0, 0)) := alloc_at _ _
  have n8 := asIsNil50 ⟨w.heap.size, 0, none⟩ ⟨tb, 0, none⟩ ((w.alloc (.cells #[.pointer (some ⟨tb, 0, none⟩)] 93)).alloc (.cells #[.pointer (some ⟨16, 93, none⟩), .pointer (some ⟨w.heap.size, 0, none⟩), .int .u64 150] 116)) (by rw [cell_of (alloc_old hb0)]; rfl)
  have hg2 : ((w.alloc (.cells #[.pointer (some ⟨tb, 0, none⟩)] 93)).alloc (.cells #[.pointer (some ⟨16, 93, none⟩), .pointer (some ⟨w.heap.size, 0, none⟩), .int .u64 150] 116)).cell? ⟨7, 0, none⟩ = some (.iface 159 (.agg #[.pointer (some ⟨16, 55, none⟩)])) := by
    rw [World.cell?_alloc_lt _ _ ⟨7, 0, none⟩ (by simp; omega), World.cell?_alloc_lt _ _ ⟨7, 0, none⟩ (by show 7 < _; omega)]; exact hE.typ
  have hfr : Fr No w ((w.alloc (.cells #[.pointer (some ⟨tb, 0, none⟩)] 93)).alloc (.cells #[.pointer (some ⟨16, 93, none⟩), .pointer (some ⟨w.heap.size, 0, none⟩), .int .u64 150] 116)) := ((Fr.refl _ _).alloc _).alloc _
  have hcall := as_any sp _ (.iface ty (.pointer (some q))) k n0 tb w.heap.size (h.fr hfr) (alloc_old hb0) old (alloc_old (alloc_old ht))
  have HC := hide hcall
  have HF := hide hfr
  clear hcall hfr
  go_enter Tryz.func38, Tryz.ntmps38
  go_wp2_with (go_at_call 60; refine HC.out.mono ?_; rintro e w' ⟨rfl, hf⟩)
  go_ret
  exact ⟨rfl, HF.out.of_no.trans hf⟩
end Go.Proofs.YtjjjlilflbddoaaGreatDoor
namespace Go.Proofs.YtjjjlilflbddoaaGreatDoor
open Go.RowKit

theorem Fr.past {S : Nat → Prop} {w w1 w2 : World} (h : Fr No w w1) (h2 : Fr S w1 w2) (hs : ∀ k, k < w.heap.size → ¬ S k) : Fr No w w2 :=
  ⟨h2.os.trans h.os, h2.tape.trans h.tape, h2.output.trans h.output, Nat.le_trans h.size h2.size, fun k hk _ => (h2.block k (Nat.lt_of_lt_of_le hk h.size) (hs k hk)).trans (h.block k hk (no_no k))⟩
theorem Blk.fr {sp : Nat → Addr} {w w' : World} (h : Blk sp w) (f : Fr No w w') : Blk sp w' := fun k h3 h8 => by
  obtain ⟨c, t, hc⟩ := h k h3 h8
  exact ⟨c, t, f.at hc (no_no _)⟩

set_option maxRecDepth 100000 in
set_option maxHeartbeats 4000000 in
theorem toldAs_any (sp : Nat → Addr) (w : World) (v0 : Value) (k n0 : Nat) (hE : Env sp w) (hB : Blk sp w) (h : Err sp w v0 k n0) (h2 : 2 ≤ k) (h8 : k ≤ 8) :
    Calls Tryz.prog 19 #[v0] w fun e w' => e = .returned (.int .i64 k) ∧ Fr No w w' := by
  obtain ⟨ty, q, rfl⟩ : ∃ t p, v0 = .iface t (.pointer (some p)) := h.iface
  have hal : Fr No w (w.alloc (.cells #[.pointer none] 91)) := (Fr.refl _ _).alloc _
  have hcall := As_any sp _ (.iface ty (.pointer (some q))) k n0 w.heap.size (hE.fr hal (fun k _ => no_no k)) (h.fr hal) (.pointer none) (alloc_at w _)
  go_enter Tryz.func19, Tryz.ntmps19
  go_wp2_with fail
  refine hcall.mono ?_
  rintro e w2 ⟨rfl, hf2⟩
  have hf : Fr No w w2 := hal.past hf2 (fun k hk => one_ne (by omega))
  have hE2 := hE.fr hf (fun k _ => no_no k)
  have hB2 := hB.fr hf
  have hv2 := h.fr hf
  have hinj := hE.inj
  have g3 : w2.cell? ⟨0, 0, none⟩ = some (.iface 248 (.pointer (some (sp 3)))) := hE2.err 3 (by decide) (by decide)
  have g4 : w2.cell? ⟨1, 0, none⟩ = some (.iface 248 (.pointer (some (sp 4)))) := hE2.err 4 (by decide) (by decide)
  have g5 : w2.cell? ⟨2, 0, none⟩ = some (.iface 248 (.pointer (some (sp 5)))) := hE2.err 5 (by decide) (by decide)
  have g6 : w2.cell? ⟨3, 0, none⟩ = some (.iface 248 (.pointer (some (sp 6)))) := hE2.err 6 (by decide) (by decide)
  have g7 : w2.cell? ⟨4, 0, none⟩ = some (.iface 248 (.pointer (some (sp 7)))) := hE2.err 7 (by decide) (by decide)
  have g9 : w2.cell? ⟨5, 0, none⟩ = some (.iface 248 (.pointer (some (sp 9)))) := hE2.err 9 (by decide) (by decide)
  have g10 : w2.cell? ⟨6, 0, none⟩ = some (.iface 248 (.pointer (some (sp 10)))) := hE2.err 10 (by decide) (by decide)
  have HV := hide hv2
  have HF := hide hf
  have HB := hide hB2
  have HI := hide hinj
  clear hv2 hf hB2 hinj hcall hal hf2 hE2 hE hB h
  rcases (by omega : k = 2 ∨ k = 3 ∨ k = 4 ∨ k = 5 ∨ k = 6 ∨ k = 7 ∨ k = 8) with rfl | rfl | rfl | rfl | rfl | rfl | rfl
  all_goals
    go_wp2_with (go_at_call 39; refine (Is_any sp _ _ _ _ n0 (by decide) (by decide) HI.out HB.out HV.out).mono ?_; rintro e w' ⟨rfl, rfl⟩)
    go_ret
    exact ⟨rfl, HF.out⟩
end Go.Proofs.YtjjjlilflbddoaaGreatDoor
