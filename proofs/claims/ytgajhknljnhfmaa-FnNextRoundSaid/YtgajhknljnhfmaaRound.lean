/- Plain facts on going round the slots. -/
import Derived.Test.YtgajhknljnhfmaaNext
namespace Go.Proofs.Ytgajhknljnhfmaa

theorem next_at (p : Int) (k : Nat) : nextOf (slotAt p k) = slotAt p (k + 1) := by
  unfold nextOf slotAt
  rw [if_pos (by omega)]
  push_cast
  omega

theorem slotAt_zero (p : Int) (h : 1 ≤ p ∧ p ≤ 8) : slotAt p 0 = p := by unfold slotAt; omega

theorem slotAt_eight (p : Int) (h : 1 ≤ p ∧ p ≤ 8) : slotAt p 8 = p := by unfold slotAt; omega

theorem slotAt_range (p : Int) (k : Nat) : 1 ≤ slotAt p k ∧ slotAt p k ≤ 8 := by unfold slotAt; omega

/-- The sum of the slots met in the first k steps. -/
def roundSum (p : Int) : Nat → Int
  | 0 => 0
  | k + 1 => roundSum p k + slotAt p (k + 1)

theorem roundSum_bound (p : Int) (k : Nat) : 0 ≤ roundSum p k ∧ roundSum p k ≤ 8 * k := by
  induction k with
  | zero => simp [roundSum]
  | succ k ih => have := slotAt_range p (k + 1); simp only [roundSum]; push_cast; omega

theorem roundSum_eight (p : Int) (h : 1 ≤ p ∧ p ≤ 8) : roundSum p 8 = 36 := by
  obtain rfl | rfl | rfl | rfl | rfl | rfl | rfl | rfl : p = 1 ∨ p = 2 ∨ p = 3 ∨ p = 4 ∨ p = 5 ∨ p = 6 ∨ p = 7 ∨ p = 8 := by omega
  all_goals decide

theorem placeOf_range (l : List UInt8) (h : tokB l = true) : 1 ≤ placeOf l ∧ placeOf l ≤ 8 := by
  rw [placeOf_yes h]; omega

/-- One letter more: the place goes on by its value times its position. -/
theorem placeOf_more (s t : ByteArray) (c : UInt8) (ht : t.data.toList = [c]) (m : Nat) (h : tokB s.data.toList = true) (hl : s.size < 4) (hc : letB c = true)
    (hm : (m : Int) = ((s.size : Int) + 1) * ((c.toNat : Int) - 96)) : placeOf (s ++ t).data.toList = slotAt (placeOf s.data.toList) m := by
  have e : (s ++ t).data.toList = s.data.toList ++ [c] := by rw [ByteArray.data_append]; simp [ht]
  have hlen : s.data.toList.length = s.size := by simp
  have h2 : tokB (s.data.toList ++ [c]) = true := by
    have := tokB_let h
    simp only [tokB, List.all_append, this, List.all_cons, hc, List.all_nil, List.length_append, hlen]
    simp; omega
  rw [e, placeOf_yes h2, placeOf_yes h, ws_snoc, hlen]
  unfold slotAt
  rw [hm]
  simp only [Int.natCast_zero, Int.zero_add]
  omega

end Go.Proofs.Ytgajhknljnhfmaa
