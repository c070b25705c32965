/- A slice of the laws' own slots that comes in. -/
import Derived.Test.YtplicodloanljaaSlotOwn
import Derived.Deep.SlicePairs
import Derived.ChangeArms
namespace Go.Proofs.Ytplicodloanljaa
open Go.RowKit Go.ChangeShapes Go.WideShapes
set_option maxRecDepth 100000

instance : Inhabited Sl := ⟨Sl.none⟩

theorem nth_map (f : Nat → Sl) (n i : Nat) (h : i < n) : nth ((List.range n).map f) i = f i := by
  rw [nth_get _ _ (by simpa using h)]; simp

def Fits (xs : List Sl) : Prop := ∀ i, i < xs.length → (nth xs i).text.size ≤ maxLen

end Go.Proofs.Ytplicodloanljaa
