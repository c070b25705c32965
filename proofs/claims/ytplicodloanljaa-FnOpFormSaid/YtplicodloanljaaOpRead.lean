/- The model's OpRead: just what OpText writes. -/
import Derived.Test.YtplicodloanljaaOpText
import Derived.Test.YtplicodloanljaaOpCut
namespace Go.Proofs.Ytplicodloanljaa
open Go.RowKit
set_option linter.unusedVariables false
set_option maxRecDepth 100000

/-- What a text's words make, whether that is a change or not. -/
def readO (ws : List ByteArray) : Ov :=
  if ((ws.getD 0 ⟨#[]⟩).toList == [109, 97, 107, 101]) = true then ⟨1, ws.getD 1 ⟨#[]⟩, ⟨#[]⟩, decF (ws.getD 2 ⟨#[]⟩).data.toList, ⟨#[]⟩⟩
  else if ((ws.getD 0 ⟨#[]⟩).toList == [102, 114, 101, 101]) = true then ⟨2, ws.getD 1 ⟨#[]⟩, ⟨#[]⟩, decF (ws.getD 2 ⟨#[]⟩).data.toList, ws.getD 3 ⟨#[]⟩⟩
  else if ((ws.getD 0 ⟨#[]⟩).toList == [119, 114, 105, 116, 101]) = true then ⟨2, ws.getD 1 ⟨#[]⟩, ⟨#[]⟩, decF (ws.getD 2 ⟨#[]⟩).data.toList, ws.getD 3 ⟨#[]⟩⟩
  else if ((ws.getD 0 ⟨#[]⟩).toList == [99, 108, 111, 110, 101]) = true then ⟨3, ws.getD 1 ⟨#[]⟩, ws.getD 2 ⟨#[]⟩, 0, ⟨#[]⟩⟩
  else if ((ws.getD 0 ⟨#[]⟩).toList == [103, 111, 110, 101]) = true then ⟨4, ws.getD 1 ⟨#[]⟩, ⟨#[]⟩, 0, ⟨#[]⟩⟩
  else ⟨0, ws.getD 1 ⟨#[]⟩, ⟨#[]⟩, 0, ⟨#[]⟩⟩

/-- What a text says, and whether it says anything. -/
def readT (s : ByteArray) (ws : List ByteArray) : Ov × Bool := if s.toList.isEmpty = true then (Ov.zero, false) else if ((opT (readO ws)).toList == s.toList) = true then (readO ws, true) else (Ov.zero, false)

def readB (s : ByteArray) : Ov × Bool := if 20 < s.size then (Ov.zero, false) else readT s (cutF s.data.toList)

/-- The result's box, still empty. -/
structure RBox (w W : World) : Prop where
  lt : w.heap.size < W.heap.size
  c : ∀ i, i < 5 → W.cell? ⟨w.heap.size, i, none⟩ = some (ovc Ov.zero i)
  z : ∀ i, W.frozen? ⟨w.heap.size, i, none⟩ = false
  below : Below w.heap.size w W

theorem RBox.new (w : World) : RBox w (w.alloc (.cells #[.int .i64 0, .string ⟨#[]⟩, .string ⟨#[]⟩, .int .i64 0, .string ⟨#[]⟩] 24)) :=
  ⟨by simp, op_cells Ov.zero w, (new_cells w _ _).2, (Below.refl w.heap.size w).alloc (Nat.le_refl _) _⟩

theorem RBox.later {w W W' : World} (h : RBox w W) (hb : Below W.heap.size W W') : RBox w W' :=
  ⟨Nat.lt_of_lt_of_le h.lt hb.size, fun i hi => (hb.cell (p := ⟨w.heap.size, i, none⟩) h.lt).trans (h.c i hi), fun i => (hb.frozen (p := ⟨w.heap.size, i, none⟩) h.lt).trans (h.z i), h.below.trans (hb.mono (Nat.le_of_lt h.lt))⟩

theorem RBox.alloc {w W : World} (h : RBox w W) (o : Obj) : RBox w (W.alloc o) := h.later ((Below.refl _ _).alloc (Nat.le_refl _) o)

theorem RBox.all {w W : World} (h : RBox w W) : w.heap.size < W.heap.size ∧ W.cell? ⟨w.heap.size, 0, none⟩ = some (.int .i64 0) ∧ W.cell? ⟨w.heap.size, 1, none⟩ = some (.string ⟨#[]⟩) ∧ W.cell? ⟨w.heap.size, 2, none⟩ = some (.string ⟨#[]⟩) ∧ W.cell? ⟨w.heap.size, 3, none⟩ = some (.int .i64 0) ∧ W.cell? ⟨w.heap.size, 4, none⟩ = some (.string ⟨#[]⟩)
    ∧ W.frozen? ⟨w.heap.size, 0, none⟩ = false ∧ W.frozen? ⟨w.heap.size, 1, none⟩ = false ∧ W.frozen? ⟨w.heap.size, 2, none⟩ = false ∧ W.frozen? ⟨w.heap.size, 3, none⟩ = false ∧ W.frozen? ⟨w.heap.size, 4, none⟩ = false :=
  ⟨h.lt, h.c 0 (by omega), h.c 1 (by omega), h.c 2 (by omega), h.c 3 (by omega), h.c 4 (by omega), h.z 0, h.z 1, h.z 2, h.z 3, h.z 4⟩

theorem RBox.put5 {w W : World} (h : RBox w W) (a b c d e : Value) : Below w.heap.size w (((((W.setCell ⟨w.heap.size, 0, none⟩ a).setCell ⟨w.heap.size, 1, none⟩ b).setCell ⟨w.heap.size, 2, none⟩ c).setCell ⟨w.heap.size, 3, none⟩ d).setCell ⟨w.heap.size, 4, none⟩ e) :=
  ((((h.below.setCell (p := ⟨w.heap.size, 0, none⟩) (Nat.le_refl _) a).setCell (p := ⟨w.heap.size, 1, none⟩) (Nat.le_refl _) b).setCell (p := ⟨w.heap.size, 2, none⟩) (Nat.le_refl _) c).setCell (p := ⟨w.heap.size, 3, none⟩) (Nat.le_refl _) d).setCell (p := ⟨w.heap.size, 4, none⟩) (Nat.le_refl _) e

/-- The change that is being read, in its box. -/
theorem five_new (w : World) (o : Ov) : (w.alloc (.cells #[.int .i64 o.kind, .string o.name, .string o.dest, .int .i64 o.num, .string o.text] 24)).cell? ⟨w.heap.size, 0, none⟩ = some (.int .i64 o.kind) := op_cells o w 0 (by omega)

end Go.Proofs.Ytplicodloanljaa
