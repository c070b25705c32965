/- A slice of the laws' own slots that comes in. -/
import Derived.Test.YtgogokahpmljbaaSlotOwn
import Derived.Deep.SlicePairs
import Derived.ChangeArms
namespace Go.Proofs.Ytgogokahpmljbaa
open Go.RowKit Go.ChangeShapes Go.WideShapes
set_option maxRecDepth 100000

instance : Inhabited Sl := ⟨Sl.none⟩

theorem nth_map (f : Nat → Sl) (n i : Nat) (h : i < n) : nth ((List.range n).map f) i = f i := by
  rw [nth_get _ _ (by simpa using h)]; simp

def Fits (xs : List Sl) : Prop := ∀ i, i < xs.length → (nth xs i).text.size ≤ maxLen

theorem storeOkS_v (v : Value) (xs : List Sl) (w : World) (h : Slv w v xs) (ht : Fits xs) :
    Calls Try.prog 27 #[v] w fun e w' => e = .returned (.bool (storeB xs)) ∧ Below w.heap.size w w' := by
  obtain ⟨a, n, c, rfl, hn, hn1, hs⟩ := h
  refine (storeOkS_any a n c xs w hs hn hn1 (by rw [← hn]; exact ht)).mono ?_
  rintro e w' ⟨he, hD⟩
  exact ⟨he, hD.below _⟩

end Go.Proofs.Ytgogokahpmljbaa
