/- What the two functions TextOk answer, and the small functions beside them. -/
import Derived.Test.YtaoaclmcmeaedaaRows
import Derived.Test.YtaoaclmcmeaedaaPlain
import Derived.WalkKit
import Derived.WalkSpells
import Derived.WalkLawsBesides
import Derived.Lib.Hide
import Derived.IntWalk
namespace Go.Proofs.Ytaoaclmcmeaedaa
open Go.RowKit

theorem w64_byte (c : UInt8) : wrap64 (c.toNat : Int) = c.toNat := by
  have := c.toNat_lt
  exact IntWalk.wrap64_in _ (by omega)

theorem let_no (c : UInt8) (h : (!decide (97 ≤ wrap64 (c.toNat : Int))) = true ∨ (!decide (wrap64 (c.toNat : Int) ≤ 100)) = true) : letB c = false := by
  rw [w64_byte] at h
  rcases h with h | h
  · exact letB_low (by simp at h; omega)
  · exact letB_high (by simp at h; omega)

theorem let_yes (c : UInt8) (h : (!decide (97 ≤ wrap64 (c.toNat : Int))) = false ∧ (!decide (wrap64 (c.toNat : Int) ≤ 100)) = false) : letB c = true := by
  rw [w64_byte] at h
  obtain ⟨h1, h2⟩ := h
  exact letB_true (by simp at h1; omega) (by simp at h2; omega)

end Go.Proofs.Ytaoaclmcmeaedaa
