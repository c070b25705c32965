/- The program's OpOk. -/
import Derived.Test.YtplicodloanljaaDoorOpOMake
import Derived.Test.YtplicodloanljaaDoorOpOWrite
import Derived.Test.YtplicodloanljaaDoorOpOClone
import Derived.Test.YtplicodloanljaaDoorOpOGone
namespace Go.Proofs.YtplicodloanljaaDoor
open Go.RowKit
set_option linter.unusedVariables false
set_option maxRecDepth 100000

theorem operationOf_else (kind : Int) (name dest : ByteArray) (num : Int) (text : ByteArray) (w : World) (h1 : ¬ kind = 1) (h2 : ¬ kind = 2) (h3 : ¬ kind = 3) (h4 : ¬ kind = 4) :
    Calls Tryd.prog 22 #[(Ov.mk kind name dest num text).val] w fun e w' =>
      e = .returned (.tuple #[.nilIface, .bool false]) ∧ Below w.heap.size w w' := by
  have hc := op_cells ⟨kind, name, dest, num, text⟩ w
  have c0 := hc 0 (by omega)
  simp only [ovc] at c0
  clear hc
  have HB := Lib.hid (new_below w (.cells #[.int .i64 kind, .string name, .string dest, .int .i64 num, .string text] 24))
  unfold Ov.val
  go_enter Tryd.func22, Tryd.ntmps22
  go_wp2_with fail
  go_ret2
  exact ⟨rfl, HB.out⟩

/-- A change as the program's operation. -/
def opV (o : Ov) : Value := if o.kind = 1 then mkV o.name o.num else if o.kind = 2 then wrV o.name o.num o.text else if o.kind = 3 then clV o.name o.dest else goV o.name

theorem operationOf_any (o : Ov) (w : World) (ht : OpFits o) :
    Calls Tryd.prog 22 #[o.val] w fun e w' => e = .returned (opR (opB o) (opV o)) ∧ Below w.heap.size w w' := by
  obtain ⟨kind, name, dest, num, text⟩ := o
  by_cases h1 : kind = 1
  · subst h1; exact operationOf_make name dest num text w ht.text
  by_cases h2 : kind = 2
  · subst h2; exact operationOf_write name dest num text w ht.text
  by_cases h3 : kind = 3
  · subst h3; exact operationOf_clone name dest num text w ht.text
  by_cases h4 : kind = 4
  · subst h4; exact operationOf_gone name dest num text w ht.text
  have hb : opB ⟨kind, name, dest, num, text⟩ = false := by simp [opB, h1, h2, h3, h4]
  rw [hb]
  exact operationOf_else kind name dest num text w h1 h2 h3 h4

theorem opOk_any (o : Ov) (w : World) (ht : OpFits o) :
    Calls Tryd.prog 13 #[o.val] w fun e w' => e = .returned (.bool (opB o)) ∧ Below w.heap.size w w' := by
  have HC := Lib.hid (fun W => operationOf_any o W ht)
  unfold Ov.val opR at HC
  unfold Ov.val
  go_enter Tryd.func13, Tryd.ntmps13
  go_wp2_with (go_at_call 22; refine (HC.out _).mono ?_; rintro e w2 ⟨rfl, hb2⟩; have HB2 := Lib.hid hb2; clear hb2)
  all_goals (
    go_ret
    exact ⟨rfl, (new_below w _).trans (HB2.out.mono (by rw [World.size_alloc]; exact Nat.le_succ _))⟩)

end Go.Proofs.YtplicodloanljaaDoor
