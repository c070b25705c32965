/- What the two functions TextOk answer, and the small functions beside them. -/
import Derived.Test.YtplicodloanljaaDoorRows
import Derived.Test.YtplicodloanljaaDoorPlain
import Derived.WalkKit
import Derived.WalkSpells
import Derived.WalkLawsBesides
import Derived.Lib.Hide
import Derived.IntWalk
namespace Go.Proofs.YtplicodloanljaaDoor
open Go.RowKit

set_option maxHeartbeats 400000 in
theorem l6In_any (a b c : Int) (w : World) :
    Calls Tryd.prog 37 #[.int .i64 a, .int .i64 b, .int .i64 c] w fun e w' => e = .returned (.bool (decide (b ≤ a) && decide (a ≤ c))) ∧ w' = w := by
  by_cases h1 : b ≤ a
  all_goals by_cases h2 : a ≤ c
  all_goals
    go_enter Tryd.func37, Tryd.ntmps37
    go_wp2
    go_ret
    exact ⟨by simp [h1, h2], rfl⟩

set_option maxHeartbeats 400000 in
theorem textOk_any (s : ByteArray) (w : World) (hs : s.size ≤ maxLen) :
    Calls Tryd.prog 104 #[.string s] w fun e w' => e = .returned (.bool (tokB s.data.toList)) ∧ w' = w := by
  unfold maxLen at hs
  go_enter Tryd.func104, Tryd.ntmps104
  go_wp2
  · have h4 : (4 : Int) < s.size := by assumption
    go_ret
    refine ⟨?_, rfl⟩
    rw [tokB_long s (by omega)]
    rfl
  · have h4 : (s.size : Int) ≤ 4 := by assumption
    go_loop [9] (fun i => ∃ k : Nat, k ≤ s.size ∧ i = .int .i64 k ∧ (s.data.toList.take k).all letB = true) (fun i => s.size - (intOf i).toNat)
    case atStart => exact ⟨0, Nat.zero_le _, rfl, rfl⟩
    case round =>
      obtain ⟨k, hk, rfl, ha⟩ := hrel
      have Ha := Lib.hid ha
      clear ha
      by_cases hlt : k < s.size
      · go_wp2
        · have h5 : (s[k].toNat : Int) < 97 ∨ 100 < (s[k].toNat : Int) := by assumption
          have h6 : (97 : Int) ≤ (s[k].toNat : Int) := by assumption
          go_ret
          refine ⟨?_, rfl⟩
          rw [tokB_bad s k hlt (letB_high (by omega))]
          rfl
        · have h5 : (97 : Int) ≤ (s[k].toNat : Int) ∧ (s[k].toNat : Int) ≤ 100 := by assumption
          go_round
          case rel => exact ⟨k + 1, by omega, by go_num, all_snoc s k hlt Ha.out (letB_true (by omega) (by omega))⟩
          case measure => simp [intOf]; omega
        · have h5 : (s[k].toNat : Int) < 97 := by assumption
          go_ret
          refine ⟨?_, rfl⟩
          rw [tokB_bad s k hlt (letB_low (by omega))]
          rfl
      · go_wp2
        go_ret
        refine ⟨?_, rfl⟩
        have := Ha.out
        rw [List.take_of_length_le (by simp; have : s.data.size = s.size := rfl; omega)] at this
        rw [tokB_all s (by omega) this]
        rfl

theorem w64_byte (c : UInt8) : wrap64 (c.toNat : Int) = c.toNat := by
  have := c.toNat_lt
  exact IntWalk.wrap64_in _ (by omega)

theorem let_no (c : UInt8) (h : (!decide (97 ≤ wrap64 (c.toNat : Int))) = true ∨ (!decide (wrap64 (c.toNat : Int) ≤ 100)) = true) : letB c = false := by
  rw [w64_byte] at h
  rcases h with h | h
  · exact letB_low (by simp at h; omega)
  · exact letB_high (by simp at h; omega)

theorem let_yes (c : UInt8) (h : (!decide (97 ≤ wrap64 (c.toNat : Int))) = false ∧ (!decide (wrap64 (c.toNat : Int) ≤ 100)) = false) : letB c = true := by
  rw [w64_byte] at h
  obtain ⟨h1, h2⟩ := h
  exact letB_true (by simp at h1; omega) (by simp at h2; omega)

set_option maxHeartbeats 400000 in
theorem textOkS_any (s : ByteArray) (w : World) (hs : s.size ≤ maxLen) :
    Calls Tryd.prog 38 #[.string s] w fun e w' => e = .returned (.bool (tokB s.data.toList)) ∧ w' = w := by
  unfold maxLen at hs
  go_enter Tryd.func38, Tryd.ntmps38
  go_wp2
  go_loop [3] (fun i => ∃ k : Nat, k ≤ s.size ∧ i = .int .i64 k ∧ (s.data.toList.take k).all letB = true) (fun i => s.size - (intOf i).toNat)
  case atStart => exact ⟨0, Nat.zero_le _, rfl, rfl⟩
  case round =>
    obtain ⟨k, hk, rfl, ha⟩ := hrel
    have Ha := Lib.hid ha
    clear ha
    by_cases hlt : k < s.size
    · go_wp2_with (go_at_call 37; refine (l6In_any _ _ _ _).mono ?_; rintro e w' ⟨rfl, rfl⟩)
      · have h5 : (!decide (97 ≤ wrap64 (s[k].toNat : Int))) = true ∨ (!decide (wrap64 (s[k].toNat : Int) ≤ 100)) = true := by assumption
        go_ret
        refine ⟨?_, rfl⟩
        rw [tokB_bad s k hlt (let_no _ h5)]
        rfl
      · have h5 : (!decide (97 ≤ wrap64 (s[k].toNat : Int))) = false ∧ (!decide (wrap64 (s[k].toNat : Int) ≤ 100)) = false := by assumption
        go_round
        case rel => exact ⟨k + 1, by omega, by go_num, all_snoc s k hlt Ha.out (let_yes _ h5)⟩
        case measure => simp [intOf]; omega
    · go_wp2
      go_ret
      refine ⟨?_, rfl⟩
      have := Ha.out
      rw [List.take_of_length_le (by simp; have : s.data.size = s.size := rfl; omega)] at this
      by_cases h4 : s.size ≤ 4
      · rw [tokB_all s h4 this]
        simp; omega
      · rw [tokB_long s (by omega)]
        simp; omega

theorem textOk_is (s : ByteArray) (b : Bool) (w : World) (hs : s.size ≤ maxLen) (h : tokB s.data.toList = b) :
    Calls Tryd.prog 104 #[.string s] w fun e w' => e = .returned (.bool b) ∧ w' = w := by
  have := textOk_any s w hs
  rwa [h] at this

end Go.Proofs.YtplicodloanljaaDoor
