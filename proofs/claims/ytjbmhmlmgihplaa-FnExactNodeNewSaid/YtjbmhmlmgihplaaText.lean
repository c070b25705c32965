/- What the two functions TextOk answer, and the small functions beside them. -/
import Derived.Test.YtjbmhmlmgihplaaRows
import Derived.Test.YtjbmhmlmgihplaaPlain
import Derived.WalkKit
import Derived.WalkSpells
import Derived.WalkLawsBesides
import Derived.Lib.Hide
import Derived.IntWalk
namespace Go.Proofs.Ytjbmhmlmgihplaa
open Go.RowKit

set_option maxHeartbeats 400000 in
theorem l6In_any (a b c : Int) (w : World) :
    Calls Try.prog 9 #[.int .i64 a, .int .i64 b, .int .i64 c] w fun e w' => e = .returned (.bool (decide (b ≤ a) && decide (a ≤ c))) ∧ w' = w := by
  by_cases h1 : b ≤ a
  all_goals by_cases h2 : a ≤ c
  all_goals
    go_enter Try.func9, Try.ntmps9
    go_wp2
    go_ret
    exact ⟨by simp [h1, h2], rfl⟩

theorem w64_byte (c : UInt8) : wrap64 (c.toNat : Int) = c.toNat := by
  have := c.toNat_lt
  exact IntWalk.wrap64_in _ (by omega)

theorem let_no (c : UInt8) (h : (!decide (97 ≤ wrap64 (c.toNat : Int))) = true ∨ (!decide (wrap64 (c.toNat : Int) ≤ 100)) = true) : letB c = false := by
  rw [w64_byte] at h
  rcases h with h | h
  · exact letB_low (by simp at h; omega)
  · exact letB_high (by simp at h; omega)

theorem let_yes (c : UInt8) (h : (!decide (97 ≤ wrap64 (c.toNat : Int))) = false ∧ (!decide (wrap64 (c.toNat : Int) ≤ 100)) = false) : letB c = true := by
  rw [w64_byte] at h
  obtain ⟨h1, h2⟩ := h
  exact letB_true (by simp at h1; omega) (by simp at h2; omega)

end Go.Proofs.Ytjbmhmlmgihplaa
