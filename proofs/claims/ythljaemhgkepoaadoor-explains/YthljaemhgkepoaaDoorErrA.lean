/-
  errors.Is BY ITS CONTRACTS, at the program's own errors: nil; a *Flaw (it unwraps to Broken); an *inFunction (it unwraps to a *Flaw). Go's own text is walked. After the guide's worked SentryIs. By the verifier of the loop 'triage'.
-/
import Derived.Test.YthljaemhgkepoaaDoorCodeG
import Derived.LaidEql
import Derived.Stop.Asserts
import Derived.RowKitTokens
namespace Go.Proofs.YthljaemhgkepoaaDoor
open Go.RowKit Go.Extern.Stop Go.Stop Go.Extern

/-- what the model says of the method Comparable. -/
def cmpF (t : TypeId) : Sem Value := do Rtype.noPackHeld "Comparable" t; pure (.bool (← typeInfo t).comparable)
theorem Tryd.isTypeOf (v : Value) (w : World) : (Extern.ReflectliteType.typeOf #[.iface 151 v]).run Tryd.prog w = .ok (.iface 104 (.agg #[.pointer (some ⟨3, 151, none⟩)])) w := by kernel_rfl
theorem Tryd.isComparable (w : World) : ((Extern.ReflectliteType.method cmpF) #[.agg #[.pointer (some ⟨3, 151, none⟩)]]).run Tryd.prog w = .ok (.bool true) w := by kernel_rfl
theorem Tryd.isMethodComparable (v : Value) (w : World) : (Go.method 283 104 v "Comparable").run Tryd.prog w = .ok (103, v) w := by kernel_rfl
theorem Tryd.isComp : (Tryd.prog.info? 151).map (·.comparable) = some true := by kernel_rfl
theorem Tryd.isSize : (Tryd.prog.info? 172).map (·.size) = some 1 := by kernel_rfl

theorem Tryd.noIsF (v : Value) (xT : TypeId) (w : World) : (Instr.typeAssert (.iface 32 v) xT 116 true).run Tryd.prog w = .ok (.tuple #[.nilIface, .bool false]) w := run_typeAssert_lacksB Tryd.underlying116 (by kernel_rfl) (by kernel_rfl) v xT w
theorem Tryd.hasUnwrapF (v : Value) (xT : TypeId) (w : World) : (Instr.typeAssert (.iface 32 v) xT 111 true).run Tryd.prog w = .ok (.tuple #[.iface 32 v, .bool true]) w := run_typeAssert_hasB Tryd.underlying111 (by kernel_rfl) v xT w
theorem Tryd.methodUnwrapF (v : Value) (w : World) : (Go.method 283 32 v "Unwrap").run Tryd.prog w = .ok (95, v) w := by kernel_rfl
theorem Tryd.noIsI (v : Value) (xT : TypeId) (w : World) : (Instr.typeAssert (.iface 100 v) xT 116 true).run Tryd.prog w = .ok (.tuple #[.nilIface, .bool false]) w := run_typeAssert_lacksB Tryd.underlying116 (by kernel_rfl) (by kernel_rfl) v xT w
theorem Tryd.hasUnwrapI (v : Value) (xT : TypeId) (w : World) : (Instr.typeAssert (.iface 100 v) xT 111 true).run Tryd.prog w = .ok (.tuple #[.iface 100 v, .bool true]) w := run_typeAssert_hasB Tryd.underlying111 (by kernel_rfl) v xT w
theorem Tryd.methodUnwrapI (v : Value) (w : World) : (Go.method 283 100 v "Unwrap").run Tryd.prog w = .ok (100, v) w := by kernel_rfl

/-- errors.Is(nil, Broken). -/
theorem is_nil (b : Addr) (w : World) :
    Calls Tryd.prog 12 #[.nilIface, .iface 151 (.pointer (some b))] w fun e w' => e = .returned (.bool false) ∧ w = w' := by
  have hn := run_eql_iface_nil_left (P := Tryd.prog) w 151 (.pointer (some b)) Tryd.underlying30
  go_enter Tryd.func12, Tryd.ntmps12
  go_wp2
  go_ret
  exact ⟨rfl, rfl⟩

set_option maxHeartbeats 1600000 in
/-- errors.Is(e, Broken), e a *Flaw. -/
theorem is_flaw (x b : Addr) (w : World) (hg : w.cell? ⟨0, 0, none⟩ = some (.iface 151 (.pointer (some b)))) :
    Calls Tryd.prog 12 #[.iface 32 (.pointer (some x)), .iface 151 (.pointer (some b))] w fun e w' => e = .returned (.bool true) ∧ w = w' := by
  obtain ⟨i, hi, hcmp⟩ := Option.map_eq_some_iff.1 Tryd.isComp
  obtain ⟨j, hj, hjs⟩ := Option.map_eq_some_iff.1 Tryd.isSize
  have h8 := @run_callFunc_extern Tryd.prog 31 _ Extern.ReflectliteType.typeOf Tryd.func31 (by kernel_rfl) (by kernel_rfl) (by kernel_rfl) (by kernel_rfl)
  have h32 := @run_callFunc_extern Tryd.prog 103 _ (Extern.ReflectliteType.method cmpF) Tryd.func103 (by kernel_rfl) (by kernel_rfl) (by kernel_rfl) (by kernel_rfl)
  have tT := Tryd.isTypeOf
  have cT := Tryd.isComparable
  have mR := Tryd.isMethodComparable
  have nF := Tryd.noIsF
  have uF := Tryd.hasUnwrapF
  have mF := Tryd.methodUnwrapF
  have heq := run_eql_iface_ptr_same (P := Tryd.prog) w b Tryd.underlying30 Tryd.underlying151 hi hcmp hj
  have hty := run_eql_iface_types (P := Tryd.prog) 32 151 (.pointer (some x)) (.pointer (some b)) Tryd.underlying30 (by decide) w
  go_enter Tryd.func12, Tryd.ntmps12
  go_wp2
  refine wp_loop_rounds 2 ?_
  rw [rounds_succ]
  go_wp2
  rw [rounds_succ]
  go_wp2
  go_ret
  exact ⟨rfl, rfl⟩

set_option maxHeartbeats 1600000 in
/-- errors.Is(e, Broken), e an *inFunction with a *Flaw in it. -/
theorem is_wrap (y : Nat) (x b : Addr) (w : World) (hg : w.cell? ⟨0, 0, none⟩ = some (.iface 151 (.pointer (some b)))) (hy : w.cell? ⟨y, 1, none⟩ = some (.iface 32 (.pointer (some x)))) :
    Calls Tryd.prog 12 #[.iface 100 (.pointer (some ⟨y, 0, none⟩)), .iface 151 (.pointer (some b))] w fun e w' => e = .returned (.bool true) ∧ w = w' := by
  obtain ⟨i, hi, hcmp⟩ := Option.map_eq_some_iff.1 Tryd.isComp
  obtain ⟨j, hj, hjs⟩ := Option.map_eq_some_iff.1 Tryd.isSize
  have h8 := @run_callFunc_extern Tryd.prog 31 _ Extern.ReflectliteType.typeOf Tryd.func31 (by kernel_rfl) (by kernel_rfl) (by kernel_rfl) (by kernel_rfl)
  have h32 := @run_callFunc_extern Tryd.prog 103 _ (Extern.ReflectliteType.method cmpF) Tryd.func103 (by kernel_rfl) (by kernel_rfl) (by kernel_rfl) (by kernel_rfl)
  have tT := Tryd.isTypeOf
  have cT := Tryd.isComparable
  have mR := Tryd.isMethodComparable
  have nF := Tryd.noIsF
  have uF := Tryd.hasUnwrapF
  have mF := Tryd.methodUnwrapF
  have nI := Tryd.noIsI
  have uI := Tryd.hasUnwrapI
  have mI := Tryd.methodUnwrapI
  have heq := run_eql_iface_ptr_same (P := Tryd.prog) w b Tryd.underlying30 Tryd.underlying151 hi hcmp hj
  have hty := run_eql_iface_types (P := Tryd.prog) 32 151 (.pointer (some x)) (.pointer (some b)) Tryd.underlying30 (by decide) w
  have hty2 := run_eql_iface_types (P := Tryd.prog) 100 151 (.pointer (some ⟨y, 0, none⟩)) (.pointer (some b)) Tryd.underlying30 (by decide) w
  go_enter Tryd.func12, Tryd.ntmps12
  go_wp2
  refine wp_loop_rounds 3 ?_
  rw [rounds_succ]
  go_wp2
  rw [rounds_succ]
  go_wp2
  rw [rounds_succ]
  go_wp2
  go_ret
  exact ⟨rfl, rfl⟩
end Go.Proofs.YthljaemhgkepoaaDoor
