/- What the laws' comparisons of slots answer. -/
import Derived.Test.YtplicodloanljaaStoreV
namespace Go.Proofs.Ytplicodloanljaa
open Go.RowKit
set_option maxRecDepth 100000

/-- All slots but number j + 1 are the same. -/
def butTo (xs ys : List Sl) (at' : Int) (k : Nat) : Bool := (List.range k).all fun i => decide ((i : Int) = at' - 1) || sameSl (nth xs i) (nth ys i)

end Go.Proofs.Ytplicodloanljaa
