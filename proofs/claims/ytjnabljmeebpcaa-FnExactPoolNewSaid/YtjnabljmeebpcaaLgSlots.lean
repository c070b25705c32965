/- What the laws' comparisons of slots answer. -/
import Derived.Test.YtjnabljmeebpcaaStoreV
namespace Go.Proofs.Ytjnabljmeebpcaa
open Go.RowKit
set_option maxRecDepth 100000

theorem equal_slot (t1 t2 : ByteArray) (u1 u2 : Int) (w : World) :
    (Op.equalIn 10000 54 (.agg #[.string t1, .int .i64 u1]) (.agg #[.string t2, .int .i64 u2])).run Try.prog w = .ok (t1.toList == t2.toList && u1 == u2) w := by
  rw [run_equalIn_struct w 9999 54 _ _ (by kernel_rfl) (by kernel_rfl)]
  have hf : Try.prog.fieldsOf 54 = (match Try.prog.underlying 54 with | some (.struct fs) => fs | _ => #[]) := rfl
  rw [hf, Try.underlying54]
  cases h : (t1.toList == t2.toList)
  · simp [Op.eqFields, go_sem, h]
  · by_cases hu : u1 = u2
    · simp [Op.eqFields, go_sem, h, hu]
    · have hu2 : (u1 == u2) = false := by simpa using hu
      simp [Op.eqFields, go_sem, h, hu2]

theorem neq_slot (t1 t2 : ByteArray) (u1 u2 : Int) (w : World) :
    (binOp .neq 54 (.agg #[.string t1, .int .i64 u1]) (.agg #[.string t2, .int .i64 u2])).run Try.prog w = .ok (.bool (!(t1.toList == t2.toList && u1 == u2))) w := by
  rw [run_neq_struct, equal_slot]
  rfl

theorem eql_slot (t1 t2 : ByteArray) (u1 u2 : Int) (w : World) :
    (binOp .eql 54 (.agg #[.string t1, .int .i64 u1]) (.agg #[.string t2, .int .i64 u2])).run Try.prog w = .ok (.bool (t1.toList == t2.toList && u1 == u2)) w := by
  rw [run_eql_struct, equal_slot]
  rfl

/-- All slots but number j + 1 are the same. -/
def butTo (xs ys : List Sl) (at' : Int) (k : Nat) : Bool := (List.range k).all fun i => decide ((i : Int) = at' - 1) || sameSl (nth xs i) (nth ys i)

end Go.Proofs.Ytjnabljmeebpcaa
