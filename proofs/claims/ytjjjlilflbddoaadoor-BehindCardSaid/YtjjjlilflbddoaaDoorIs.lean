import Derived.Test.YtjjjlilflbddoaaDoorDist
import Derived.LaidEql
import Derived.Stop.Asserts
import Derived.RowKitTokens
namespace Go.Proofs.YtjjjlilflbddoaaDoor
open Go.RowKit Go.Extern.Stop Go.Stop Go.Extern

theorem isTypeOf (v : Value) (w : World) : (Extern.ReflectliteType.typeOf #[.iface 245 v]).run Tryd.prog w = .ok (.iface 171 (.agg #[.pointer (some ⟨16, 245, none⟩)])) w := by kernel_rfl
theorem isComparable (w : World) : ((Extern.ReflectliteType.method fun t => do Extern.Rtype.noPackHeld "Comparable" t; pure (.bool (← typeInfo t).comparable)) #[.agg #[.pointer (some ⟨16, 245, none⟩)]]).run Tryd.prog w = .ok (.bool true) w := by kernel_rfl
theorem isMethodComparable (v : Value) (w : World) : (Go.method 377 171 v "Comparable").run Tryd.prog w = .ok (184, v) w := by kernel_rfl
theorem isComp : (Tryd.prog.info? 245).map (·.comparable) = some true := by kernel_rfl
theorem isSize : (Tryd.prog.info? 265).map (·.size) = some 1 := by kernel_rfl
theorem noIs133 (v : Value) (xT : TypeId) (w : World) : (Instr.typeAssert (.iface 245 v) xT 182 true).run Tryd.prog w = .ok (.tuple #[.nilIface, .bool false]) w := run_typeAssert_lacksB Tryd.underlying182 (by kernel_rfl) (by kernel_rfl) v xT w
theorem noIs48 (v : Value) (xT : TypeId) (w : World) : (Instr.typeAssert (.iface 98 v) xT 182 true).run Tryd.prog w = .ok (.tuple #[.nilIface, .bool false]) w := run_typeAssert_lacksB Tryd.underlying182 (by kernel_rfl) (by kernel_rfl) v xT w
theorem noIs44 (v : Value) (xT : TypeId) (w : World) : (Instr.typeAssert (.iface 94 v) xT 182 true).run Tryd.prog w = .ok (.tuple #[.nilIface, .bool false]) w := run_typeAssert_lacksB Tryd.underlying182 (by kernel_rfl) (by kernel_rfl) v xT w
theorem noUn133 (v : Value) (xT : TypeId) (w : World) : (Instr.typeAssert (.iface 245 v) xT 178 true).run Tryd.prog w = .ok (.tuple #[.nilIface, .bool false]) w := run_typeAssert_lacksB Tryd.underlying178 (by kernel_rfl) (by kernel_rfl) v xT w
theorem noUn48 (v : Value) (xT : TypeId) (w : World) : (Instr.typeAssert (.iface 98 v) xT 178 true).run Tryd.prog w = .ok (.tuple #[.nilIface, .bool false]) w := run_typeAssert_lacksB Tryd.underlying178 (by kernel_rfl) (by kernel_rfl) v xT w
theorem hasUn44 (v : Value) (xT : TypeId) (w : World) : (Instr.typeAssert (.iface 94 v) xT 178 true).run Tryd.prog w = .ok (.tuple #[.iface 94 v, .bool true]) w := run_typeAssert_hasB Tryd.underlying178 (by kernel_rfl) v xT w
theorem noUns133 (v : Value) (xT : TypeId) (w : World) : (Instr.typeAssert (.iface 245 v) xT 179 true).run Tryd.prog w = .ok (.tuple #[.nilIface, .bool false]) w := run_typeAssert_lacksB Tryd.underlying179 (by kernel_rfl) (by kernel_rfl) v xT w
theorem noUns48 (v : Value) (xT : TypeId) (w : World) : (Instr.typeAssert (.iface 98 v) xT 179 true).run Tryd.prog w = .ok (.tuple #[.nilIface, .bool false]) w := run_typeAssert_lacksB Tryd.underlying179 (by kernel_rfl) (by kernel_rfl) v xT w
theorem methodUnwrap (v : Value) (w : World) : (Go.method 377 94 v "Unwrap").run Tryd.prog w = .ok (177, v) w := by kernel_rfl

/-- How deep an error is wrapped is told by the error. -/
theorem Err.unique {sp : Nat → Addr} {w : World} {v : Value} {k n : Nat} (h : Err sp w v k n) : ∀ {k' n' : Nat}, Err sp w v k' n' → n = n' := by
  induction h using Err.ways with
  | sent k h3 h8 =>
    intro k' n' h'
    cases n' with
    | zero => rfl
    | succ n' => obtain ⟨p, t, v', _, e, _⟩ := h'; injection e with e1; exact absurd e1 (by decide)
  | short p m h =>
    intro k' n' h'
    cases n' with
    | zero => rfl
    | succ n' => obtain ⟨p, t, v', _, e, _⟩ := h'; injection e with e1; exact absurd e1 (by decide)
  | fault p t v k n h he ih =>
    intro k' n' h'
    cases n' with
    | zero =>
      rcases h' with ⟨_, _, e⟩ | ⟨_, p, m, _, e⟩
      · injection e with e1; exact absurd e1 (by decide)
      · injection e with e1; exact absurd e1 (by decide)
    | succ n' =>
      obtain ⟨p', t', v', h'', e, he'⟩ := h'
      injection e with e1 e2
      injection e2 with e3
      injection e3 with e4
      injection e4 with e5
      subst e5
      rw [h] at h''
      injection h'' with h''
      injection h'' with h''
      have : v = v' := by have := congrArg (fun a : Array Value => a[1]?) h''; simpa using this
      subst this
      rw [ih he']
theorem Err.dep {sp : Nat → Addr} {w : World} {v : Value} {k n : Nat} (h : Err sp w v k n) : (Classical.epsilon fun n => ∃ k, Err sp w v k n) = n := by
  have : ∃ k', Err sp w v k' (Classical.epsilon fun n => ∃ k, Err sp w v k n) := Classical.epsilon_spec (p := fun n => ∃ k, Err sp w v k n) ⟨n, k, h⟩
  obtain ⟨k', h'⟩ := this
  exact (h.unique h').symm

/-- Where the errors lie. -/
def Blk (sp : Nat → Addr) (w : World) : Prop := ∀ k, 3 ≤ k → k ≤ 10 → ∃ c t, w.heap[(sp k).block]? = some (.cells c t (0, 0))

theorem unwrap_any (p : Nat) (t : ByteArray) (v : Value) (w : World) (h : w.heap[p]? = some (.cells #[.string t, v] 97 (0, 0))) :
    Calls Tryd.prog 177 #[.pointer (some ⟨p, 0, none⟩)] w fun e w' => e = .returned v ∧ w' = w := by
  have c1 : w.cell? ⟨p, 1, none⟩ = some v := by rw [cell_of h]; rfl
  go_enter Tryd.func177, Tryd.ntmps177
  go_wp2
  go_ret
  exact ⟨rfl, rfl⟩

set_option maxRecDepth 100000 in
set_option maxHeartbeats 4000000 in
theorem is_any (sp : Nat → Addr) (j : Nat) (w : World) (v0 : Value) (k n0 : Nat) (hj3 : 3 ≤ j) (hj8 : j ≤ 10) (hinj : ∀ j k, 3 ≤ j → j ≤ 10 → 3 ≤ k → k ≤ 10 → sp j = sp k → j = k) (hB : Blk sp w) (h : Err sp w v0 k n0) :
    Calls Tryd.prog 81 #[v0, .iface 245 (.pointer (some (sp j))), .bool true] w fun e w' => e = .returned (.bool (decide (k = j))) ∧ w' = w := by
  obtain ⟨i, hi, hcmp⟩ := Option.map_eq_some_iff.1 isComp
  obtain ⟨jj, hjj, hjs⟩ := Option.map_eq_some_iff.1 isSize
  have a1 := noIs133
  have a2 := noIs48
  have a3 := noIs44
  have a4 := noUn133
  have a5 := noUn48
  have a6 := hasUn44
  have a7 := noUns133
  have a8 := noUns48
  have mU := methodUnwrap
  have he33 : ∀ (u : TypeId) (x : Value) (w : World), (binOp .eql 71 (.iface u x) .nilIface).run Tryd.prog w = .ok (.bool false) w := fun u x w => run_eql_held_nil w 71 u x m33
  go_enter Tryd.func81, Tryd.ntmps81
  go_wp2_with fail
  go_loop [0] (fun v => ∃ n, Err sp w v k n) (fun v => Classical.epsilon fun n => ∃ k, Err sp w v k n)
  case atStart => exact ⟨n0, h⟩
  case round =>
    obtain ⟨n, hE⟩ := hrel
    have hdep := hE.dep
    have HDEP := hide hdep
    clear hdep
    cases hE using Err.ways with
    | sent _ h3 h8 =>
      by_cases hkj : k = j
      · subst hkj
        have heq := run_eql_iface_ptr_same (P := Tryd.prog) w (sp k) Tryd.underlying71 Tryd.underlying245 hi hcmp hjj
        go_wp2
        go_ret
        exact ⟨by simp, rfl⟩
      · obtain ⟨ca, ta, hca⟩ := hB k h3 (by omega)
        obtain ⟨cb, tb, hcb⟩ := hB j hj3 hj8
        have heq := run_eql_iface_ptr_other (P := Tryd.prog) w Tryd.underlying71 Tryd.underlying245 hi hcmp hjj (by rw [hjs]; decide) (fun e => hkj (hinj k j h3 (by omega) hj3 hj8 e)) hca hcb
        go_wp2
        go_ret
        exact ⟨by simp, rfl⟩
    | short p m hp =>
      have heq := run_eql_iface_types (P := Tryd.prog) 98 245 (.pointer (some ⟨p, 0, none⟩)) (.pointer (some (sp j))) Tryd.underlying71 (by decide) w
      have hkj : ¬ 2 = j := by omega
      go_wp2
      go_ret
      exact ⟨by simp, rfl⟩
    | fault p t v _ n' hp hE' _ =>
      have heq := run_eql_iface_types (P := Tryd.prog) 94 245 (.pointer (some ⟨p, 0, none⟩)) (.pointer (some (sp j))) Tryd.underlying71 (by decide) w
      obtain ⟨ty, q, rfl⟩ : ∃ t p, v = .iface t (.pointer (some p)) := hE'.iface
      go_wp2_with (go_at_call 177; refine (unwrap_any p t _ _ hp).mono ?_; rintro e w' ⟨rfl, rfl⟩)
      refine ⟨⟨n', hE'⟩, ?_⟩
      rw [HDEP.out, hE'.dep]; omega

set_option maxRecDepth 100000 in
set_option maxHeartbeats 1600000 in
theorem Is_any (sp : Nat → Addr) (j : Nat) (w : World) (v0 : Value) (k n0 : Nat) (hj3 : 3 ≤ j) (hj8 : j ≤ 10) (hinj : ∀ j k, 3 ≤ j → j ≤ 10 → 3 ≤ k → k ≤ 10 → sp j = sp k → j = k) (hB : Blk sp w) (h : Err sp w v0 k n0) :
    Calls Tryd.prog 54 #[v0, .iface 245 (.pointer (some (sp j)))] w fun e w' => e = .returned (.bool (decide (k = j))) ∧ w' = w := by
  have h25 := @run_callFunc_extern Tryd.prog 80 _ Extern.ReflectliteType.typeOf Tryd.func80 (by kernel_rfl) (by kernel_rfl) (by kernel_rfl) (by kernel_rfl)
  have h91 : ∀ w, Sem.run Tryd.prog (callFunc 184 #[.agg #[.pointer (some ⟨16, 245, none⟩)]]) w = .ok (.value (.bool true)) w := fun w => by
    rw [@run_callFunc_extern Tryd.prog 184 _ (Extern.ReflectliteType.method fun t => do Extern.Rtype.noPackHeld "Comparable" t; pure (.bool (← typeInfo t).comparable)) Tryd.func184 (by kernel_rfl) (by kernel_rfl) (by kernel_rfl) (by kernel_rfl), isComparable]; rfl
  have tT := isTypeOf
  have mR := isMethodComparable
  have he33 : ∀ (u : TypeId) (x : Value) (w : World), (binOp .eql 71 (.iface u x) .nilIface).run Tryd.prog w = .ok (.bool false) w := fun u x w => run_eql_held_nil w 71 u x m33
  obtain ⟨ty, q, rfl⟩ : ∃ t p, v0 = .iface t (.pointer (some p)) := h.iface
  go_enter Tryd.func54, Tryd.ntmps54
  go_wp2_with (go_at_call 81; refine (is_any sp j _ _ k n0 hj3 hj8 hinj hB h).mono ?_; rintro e w' ⟨rfl, rfl⟩)
  go_ret
  exact ⟨rfl, rfl⟩
end Go.Proofs.YtjjjlilflbddoaaDoor
