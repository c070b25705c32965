/- Pools that are read: the model's l11At and l11Copy. -/
import Derived.Test.YtplicodloanljaaPoolRow
namespace Go.Proofs.Ytplicodloanljaa
open Go.RowKit
set_option linter.unusedVariables false
set_option maxRecDepth 100000

/-- A row that is read. -/
def RdRow (w : World) (r : Rw) (x : Vo) : Prop := r.name = x.name ∧ Intv w r.val x.blocks ∧ x.name.size ≤ maxLen

/-- A slice of disks that is read. -/
def RdV (w : World) (a : Option Addr) (n c : Nat) (vs : List Vo) : Prop :=
  vs.length = n ∧ n ≤ 2000000 ∧ (vs = [] ∨ ∃ g off rs, a = some ⟨g, off, none⟩ ∧ rs.length = n ∧ RowsAt w g off rs ∧ ∀ i, i < n → RdRow w (rth rs i) (vth vs i))

theorem rdV_below {w w' : World} {B : Nat} {a : Option Addr} {n c : Nat} {vs : List Vo} (h : RdV w a n c vs) (hb : Below B w w') (hB : w.heap.size ≤ B) : RdV w' a n c vs := by
  obtain ⟨h1, h2, h3⟩ := h
  refine ⟨h1, h2, ?_⟩
  rcases h3 with h3 | ⟨g, off, rs, ha, hl, hr, hx⟩
  · exact .inl h3
  · by_cases h0 : 0 < n
    · exact .inr ⟨g, off, rs, ha, hl, rowsAt_below hr hb (by have := rowsAt_lt hr (by omega); omega), fun i hi => ⟨(hx i hi).1, intv_below (hx i hi).2.1 hb hB, (hx i hi).2.2⟩⟩
    · exact .inl (List.eq_nil_of_length_eq_zero (by omega))

theorem rdV_at {w : World} {a : Option Addr} {n c : Nat} {vs : List Vo} (h : RdV w a n c vs) (i : Nat) (hi : i < n) :
    ∃ g off rs, a = some ⟨g, off, none⟩ ∧ rs.length = n ∧ RowsAt w g off rs ∧ ∀ i, i < n → RdRow w (rth rs i) (vth vs i) := by
  obtain ⟨h1, h2, h3⟩ := h
  rcases h3 with h3 | h3
  · subst h3; simp at h1; omega
  · exact h3

theorem vth_take (vs : List Vo) (k i : Nat) (h : i < k) : vth (vs.take k) i = vth vs i := by
  simp [vth, List.getD_eq_getElem?_getD, List.getElem?_take_of_lt h]

theorem take_vo (vs : List Vo) (k : Nat) (hk : k < vs.length) : vs.take (k + 1) = vs.take k ++ [vth vs k] := by
  rw [List.take_succ_eq_append_getElem hk, vth_get _ _ hk]

end Go.Proofs.Ytplicodloanljaa
