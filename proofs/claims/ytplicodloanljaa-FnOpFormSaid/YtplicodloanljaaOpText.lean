/- The model's OpText: a change's text. -/
import Derived.Test.YtplicodloanljaaOp
namespace Go.Proofs.Ytplicodloanljaa
open Go.RowKit
set_option linter.unusedVariables false
set_option maxRecDepth 100000

/-- A number of one figure. -/
def decB (n : Int) : ByteArray := ⟨#[UInt8.ofNat (48 + n).toNat]⟩

/-- A change in the call's own box. -/
structure OpBox (w : World) (o : Ov) (W : World) : Prop where
  lt : w.heap.size < W.heap.size
  op : ∀ i, i < 5 → W.cell? ⟨w.heap.size, i, none⟩ = some (ovc o i)
  below : Below w.heap.size w W

theorem OpBox.new (w : World) (o : Ov) : OpBox w o (w.alloc (.cells #[.int .i64 o.kind, .string o.name, .string o.dest, .int .i64 o.num, .string o.text] 24)) :=
  ⟨by simp, op_cells o w, (Below.refl w.heap.size w).alloc (Nat.le_refl _) _⟩

theorem OpBox.later {w W W' : World} {o : Ov} (h : OpBox w o W) (hb : Below W.heap.size W W') : OpBox w o W' :=
  ⟨Nat.lt_of_lt_of_le h.lt hb.size, fun i hi => (hb.cell (p := ⟨w.heap.size, i, none⟩) h.lt).trans (h.op i hi), h.below.trans (hb.mono (Nat.le_of_lt h.lt))⟩

theorem OpBox.drew {w W : World} {o : Ov} (h : OpBox w o W) : OpBox w o W.drew := ⟨h.lt, h.op, Below.drew h.below⟩

theorem OpBox.five {w W : World} {o : Ov} (h : OpBox w o W) : w.heap.size < W.heap.size ∧ W.cell? ⟨w.heap.size, 0, none⟩ = some (.int .i64 o.kind) ∧ W.cell? ⟨w.heap.size, 1, none⟩ = some (.string o.name) ∧ W.cell? ⟨w.heap.size, 2, none⟩ = some (.string o.dest) ∧ W.cell? ⟨w.heap.size, 3, none⟩ = some (.int .i64 o.num) ∧ W.cell? ⟨w.heap.size, 4, none⟩ = some (.string o.text) :=
  ⟨h.lt, h.op 0 (by omega), h.op 1 (by omega), h.op 2 (by omega), h.op 3 (by omega), h.op 4 (by omega)⟩

def opT (o : Ov) : ByteArray :=
  if opB o = true then
    if o.kind = 1 then ⟨#[109, 97, 107, 101, 32]⟩ ++ o.name ++ ⟨#[32]⟩ ++ decB o.num
    else if o.kind = 2 then (if emp o.text = true then ⟨#[102, 114, 101, 101, 32]⟩ ++ o.name ++ ⟨#[32]⟩ ++ decB o.num else ⟨#[119, 114, 105, 116, 101, 32]⟩ ++ o.name ++ ⟨#[32]⟩ ++ decB o.num ++ ⟨#[32]⟩ ++ o.text)
    else if o.kind = 3 then ⟨#[99, 108, 111, 110, 101, 32]⟩ ++ o.name ++ ⟨#[32]⟩ ++ o.dest else ⟨#[103, 111, 110, 101, 32]⟩ ++ o.name
  else ⟨#[]⟩

theorem opB_parts {o : Ov} (h : opB o = true) : o.name.size = 1 ∧ ((o.kind = 1 ∧ 1 ≤ o.num ∧ o.num ≤ 6) ∨ (o.kind = 2 ∧ 0 ≤ o.num ∧ o.num ≤ 5 ∧ o.text.size ≤ 4) ∨ (o.kind = 3 ∧ o.dest.size = 1) ∨ o.kind = 4) := by
  unfold opB at h
  simp only [Bool.and_eq_true] at h
  refine ⟨nameB_size _ h.1, ?_⟩
  have h2 := h.2
  split at h2
  · simp at h2; exact .inl ⟨by assumption, by omega, by omega⟩
  split at h2
  · simp at h2; refine .inr (.inl ⟨by assumption, by omega, by omega, ?_⟩)
    have := tokB_len h2.2
    simpa using this
  split at h2
  · simp at h2; exact .inr (.inr (.inl ⟨by assumption, nameB_size _ h2.1.1⟩))
  split at h2
  · exact .inr (.inr (.inr (by assumption)))
  · simp at h2

end Go.Proofs.Ytplicodloanljaa
