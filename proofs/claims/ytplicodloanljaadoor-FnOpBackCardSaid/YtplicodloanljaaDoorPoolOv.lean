/- A change by value. -/
import Derived.Test.YtplicodloanljaaDoorPoolClone
namespace Go.Proofs.YtplicodloanljaaDoor
open Go.RowKit
set_option linter.unusedVariables false

/-- A change: its kind, its disk, the other disk, its number, its piece. -/
structure Ov where
  kind : Int
  name : ByteArray
  dest : ByteArray
  num : Int
  text : ByteArray

def Ov.val (o : Ov) : Value := .agg #[.int .i64 o.kind, .string o.name, .string o.dest, .int .i64 o.num, .string o.text]

end Go.Proofs.YtplicodloanljaaDoor
