/- What the laws' marks on slots do: each field is written its own mark, and read back. -/
import Derived.Test.YtplicodloanljaaSlotLaws
import Derived.Deep.RegionHeld3
namespace Go.Proofs.Ytplicodloanljaa
open Go.RowKit
set_option maxRecDepth 100000

def mark (k i : Nat) : Sl := ⟨mt (k + 2 * i), ((k + 2 * i + 1 : Nat) : Int)⟩

theorem held_step {w W w3 : World} {g o : Nat} {m : Value} (hS : W.cell? ⟨g, o, none⟩ = some m ∧ w.heap.size ≤ W.heap.size ∧ Below w.heap.size w W) (hb3 : Below W.heap.size W w3) (l : g < w.heap.size) :
    w3.cell? ⟨g, o, none⟩ = some m ∧ w.heap.size ≤ w3.heap.size ∧ Below w.heap.size w w3 :=
  ⟨(hb3.cell (p := ⟨g, o, none⟩) (by show g < _; have := hS.2.1; omega)).trans hS.1, Nat.le_trans hS.2.1 hb3.size, hS.2.2.trans (hb3.mono hS.2.1)⟩

end Go.Proofs.Ytplicodloanljaa
