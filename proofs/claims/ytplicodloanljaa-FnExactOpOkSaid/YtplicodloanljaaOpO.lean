/- The program's operationOf and OpOk. -/
import Derived.Test.YtplicodloanljaaOpI
import Derived.Test.YtplicodloanljaaOpText
import Derived.Deep.RegionHeld3
namespace Go.Proofs.Ytplicodloanljaa
open Go.RowKit
set_option linter.unusedVariables false
set_option maxRecDepth 100000

/-- What operationOf answers. -/
def opR (b : Bool) (v : Value) : Value := .tuple #[if b = true then v else .nilIface, .bool b]

def sameO (o p : Ov) : Bool := o.kind == p.kind && (o.name.toList == p.name.toList && (o.dest.toList == p.dest.toList && (o.num == p.num && o.text.toList == p.text.toList)))

theorem toList_inj {a b : ByteArray} (h : a.toList = b.toList) : a = b := by
  rw [ByteArray.toList_eq, ByteArray.toList_eq] at h
  apply ByteArray.ext
  exact Array.toList_inj.1 h

theorem sameO_iff (o p : Ov) : sameO o p = true ↔ o = p := by
  obtain ⟨k, n, d, m, t⟩ := o
  obtain ⟨k', n', d', m', t'⟩ := p
  unfold sameO
  simp only [Bool.and_eq_true, beq_iff_eq, Ov.mk.injEq]
  constructor
  · rintro ⟨h1, h2, h3, h4, h5⟩; exact ⟨h1, toList_inj h2, toList_inj h3, h4, toList_inj h5⟩
  · rintro ⟨rfl, rfl, rfl, rfl, rfl⟩; exact ⟨rfl, rfl, rfl, rfl, rfl⟩

theorem equal_op (o p : Ov) (w : World) :
    (Op.equalIn 10000 24 o.val p.val).run Try.prog w = .ok (sameO o p) w := by
  obtain ⟨k, n, d, m, t⟩ := o
  obtain ⟨k', n', d', m', t'⟩ := p
  unfold Ov.val sameO
  rw [run_equalIn_struct w 9999 24 _ _ (by kernel_rfl) (by kernel_rfl)]
  have hf : Try.prog.fieldsOf 24 = (match Try.prog.underlying 24 with | some (.struct fs) => fs | _ => #[]) := rfl
  rw [hf, Try.underlying24]
  simp only
  cases h1 : (k == k')
  · simp [Op.eqFields, go_sem, h1]
  cases h2 : (n.toList == n'.toList)
  · simp [Op.eqFields, go_sem, h1, h2]
  cases h3 : (d.toList == d'.toList)
  · simp [Op.eqFields, go_sem, h1, h2, h3]
  cases h4 : (m == m')
  · simp [Op.eqFields, go_sem, h1, h2, h3, h4]
  cases h5 : (t.toList == t'.toList)
  · simp [Op.eqFields, go_sem, h1, h2, h3, h4, h5]
  · simp [Op.eqFields, go_sem, h1, h2, h3, h4, h5]

theorem neq_op (o p : Ov) (w : World) : (binOp .neq 24 o.val p.val).run Try.prog w = .ok (.bool (!sameO o p)) w := by
  unfold Ov.val
  rw [run_neq_struct]
  have h := equal_op o p w
  unfold Ov.val at h
  rw [h]
  rfl

theorem eql_op (o p : Ov) (w : World) : (binOp .eql 24 o.val p.val).run Try.prog w = .ok (.bool (sameO o p)) w := by
  unfold Ov.val
  rw [run_eql_struct]
  have h := equal_op o p w
  unfold Ov.val at h
  rw [h]
  rfl

theorem emp_iff (s : ByteArray) : emp s = true ↔ s = ⟨#[]⟩ := by
  constructor
  · intro h
    apply toList_inj
    unfold emp at h
    simpa [ByteArray.toList_eq] using h
  · rintro rfl
    simp [emp, ByteArray.toList_eq]

theorem opB_make_not (name dest : ByteArray) (num : Int) (text : ByteArray) (h : (nameB name.data.toList && (decide (1 ≤ num) && decide (num ≤ 6))) = false) : opB ⟨1, name, dest, num, text⟩ = false := by
  unfold opB
  simp only [Bool.and_eq_false_iff] at h
  simp
  grind

theorem opB_make_same (name dest : ByteArray) (num : Int) (text : ByteArray) (h : (nameB name.data.toList && (decide (1 ≤ num) && decide (num ≤ 6))) = true) : sameO (Ov.mk 1 name ⟨#[]⟩ num ⟨#[]⟩) ⟨1, name, dest, num, text⟩ = opB ⟨1, name, dest, num, text⟩ := by
  rw [Bool.eq_iff_iff, sameO_iff]
  unfold opB
  simp only [Ov.mk.injEq, Bool.and_eq_true, decide_eq_true_eq] at h ⊢
  simp [emp_iff]
  grind

theorem meth_make (v : Value) (w : World) : (Go.method 186 48 v "loop.example/garner/impl.ok").run Try.prog w = .ok (36, v) w := by kernel_rfl

theorem opB_write_not (name dest : ByteArray) (num : Int) (text : ByteArray) (h : (nameB name.data.toList && (decide (0 ≤ num) && decide (num ≤ 5)) && tokB text.data.toList) = false) : opB ⟨2, name, dest, num, text⟩ = false := by
  unfold opB
  simp only [Bool.and_eq_false_iff] at h
  simp
  grind

theorem opB_write_same (name dest : ByteArray) (num : Int) (text : ByteArray) (h : (nameB name.data.toList && (decide (0 ≤ num) && decide (num ≤ 5)) && tokB text.data.toList) = true) : sameO (Ov.mk 2 name ⟨#[]⟩ num text) ⟨2, name, dest, num, text⟩ = opB ⟨2, name, dest, num, text⟩ := by
  rw [Bool.eq_iff_iff, sameO_iff]
  unfold opB
  simp only [Ov.mk.injEq, Bool.and_eq_true, decide_eq_true_eq] at h ⊢
  simp [emp_iff]
  grind

theorem meth_write (v : Value) (w : World) : (Go.method 186 50 v "loop.example/garner/impl.ok").run Try.prog w = .ok (39, v) w := by kernel_rfl

theorem opB_clone_not (name dest : ByteArray) (num : Int) (text : ByteArray) (h : (nameB name.data.toList && nameB dest.data.toList) = false) : opB ⟨3, name, dest, num, text⟩ = false := by
  unfold opB
  simp only [Bool.and_eq_false_iff] at h
  simp
  grind

theorem opB_clone_same (name dest : ByteArray) (num : Int) (text : ByteArray) (h : (nameB name.data.toList && nameB dest.data.toList) = true) : sameO (Ov.mk 3 name dest 0 ⟨#[]⟩) ⟨3, name, dest, num, text⟩ = opB ⟨3, name, dest, num, text⟩ := by
  rw [Bool.eq_iff_iff, sameO_iff]
  unfold opB
  simp only [Ov.mk.injEq, Bool.and_eq_true] at h ⊢
  simp [emp_iff]
  grind

theorem meth_clone (v : Value) (w : World) : (Go.method 186 52 v "loop.example/garner/impl.ok").run Try.prog w = .ok (42, v) w := by kernel_rfl

theorem opB_gone_not (name dest : ByteArray) (num : Int) (text : ByteArray) (h : (nameB name.data.toList) = false) : opB ⟨4, name, dest, num, text⟩ = false := by
  unfold opB
  skip
  simp
  grind

theorem opB_gone_same (name dest : ByteArray) (num : Int) (text : ByteArray) (h : (nameB name.data.toList) = true) : sameO (Ov.mk 4 name ⟨#[]⟩ 0 ⟨#[]⟩) ⟨4, name, dest, num, text⟩ = opB ⟨4, name, dest, num, text⟩ := by
  rw [Bool.eq_iff_iff, sameO_iff]
  unfold opB
  simp only [Ov.mk.injEq, Bool.and_eq_true] at h ⊢
  simp [emp_iff]
  grind

theorem meth_gone (v : Value) (w : World) : (Go.method 186 54 v "loop.example/garner/impl.ok").run Try.prog w = .ok (44, v) w := by kernel_rfl

end Go.Proofs.Ytplicodloanljaa
