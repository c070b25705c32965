/- errors.Is at the two errors that the program asks about: none, and its own. -/
import Derived.Test.YtplicodloanljaaDoorShelf
import Derived.Test.YtplicodloanljaaDoorOpText
import Derived.LaidEql
import Derived.RowKitTokens
namespace Go.Proofs.YtplicodloanljaaDoor
open Go.RowKit
set_option linter.unusedVariables false
set_option maxRecDepth 100000

/-- The program's error. -/
def errV (p : Addr) : Value := .iface 135 (.pointer (some p))

theorem isTypeOf (v : Value) (w : World) : (Extern.ReflectliteType.typeOf #[.iface 135 v]).run Tryd.prog w = .ok (.iface 84 (.agg #[.pointer (some ⟨9, 135, none⟩)])) w := by kernel_rfl

/-- What the model does for rtype.Comparable. -/
noncomputable def cmpE : Array Value → Sem Value := (Extern.find Tryd.f112).getD (fun _ => pure undef)

theorem isComparable (w : World) : (cmpE #[.agg #[.pointer (some ⟨9, 135, none⟩)]]).run Tryd.prog w = .ok (.bool true) w := by kernel_rfl

theorem isMethodComparable (v : Value) (w : World) : (Go.method 284 84 v "Comparable").run Tryd.prog w = .ok (112, v) w := by kernel_rfl

theorem eqlNil (v : Value) (w : World) : (binOp .eql 49 .nilIface (.iface 135 v)).run Tryd.prog w = .ok (.bool false) w := by kernel_rfl

set_option maxHeartbeats 1600000 in
theorem errIs_nil (p : Addr) (w : World) :
    Calls Tryd.prog 27 #[.nilIface, errV p] w fun e w' => e = .returned (.bool false) ∧ w' = w := by
  unfold errV
  have F := eqlNil (.pointer (some p))
  go_enter Tryd.func27, Tryd.ntmps27
  go_wp2_with fail
  go_ret
  exact ⟨rfl, rfl⟩

theorem isComp : (Tryd.prog.info? 135).map (·.comparable) = some true := by kernel_rfl

theorem isSize : (Tryd.prog.info? 137).map (·.size) = some 1 := by kernel_rfl

set_option maxHeartbeats 1600000 in
theorem errIs_same (p : Addr) (w : World) :
    Calls Tryd.prog 27 #[errV p, errV p] w fun e w' => e = .returned (.bool true) ∧ w' = w := by
  unfold errV
  obtain ⟨i, hi, hcmp⟩ := Option.map_eq_some_iff.1 isComp
  obtain ⟨j, hj, _⟩ := Option.map_eq_some_iff.1 isSize
  have x1 := @run_callFunc_extern Tryd.prog 41 _ Extern.ReflectliteType.typeOf Tryd.func41 (by kernel_rfl) (by kernel_rfl) (by kernel_rfl) (by kernel_rfl)
  have x2 := @run_callFunc_extern Tryd.prog 112 _ cmpE Tryd.func112 (by kernel_rfl) (by kernel_rfl) (by kernel_rfl) (by kernel_rfl)
  have F1 := isTypeOf
  have F2 := isComparable
  have F3 := isMethodComparable
  have F4 := run_eql_iface_ptr_same (P := Tryd.prog) w p Tryd.underlying49 Tryd.underlying135 hi hcmp hj
  go_enter Tryd.func27, Tryd.ntmps27
  go_wp2
  refine wp_loop_rounds 1 ?_
  rw [rounds_succ]
  go_wp2
  go_ret
  exact ⟨rfl, rfl⟩

end Go.Proofs.YtplicodloanljaaDoor
