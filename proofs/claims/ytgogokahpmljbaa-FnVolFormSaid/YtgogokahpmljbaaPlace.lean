/- What the two functions TextPlace answer, and the model's TextNext. -/
import Derived.Test.YtgogokahpmljbaaText
namespace Go.Proofs.Ytgogokahpmljbaa
open Go.RowKit

theorem ret_int {k : IntKind} {a b : Int} (h : a = b) : Ending.returned (.int k a) = .returned (.int k b) := by rw [h]

theorem ws_add (s : ByteArray) (k : Nat) (h : k < s.size) (ht : tokB s.data.toList = true) :
    wrap64 (ws 0 (s.data.toList.take k) + wrap64 (((k : Int) + 1) * ((s[k].toNat : Int) - 97 + 1))) = ws 0 (s.data.toList.take (k + 1)) := by
  have hl := (letB_iff _).1 (let_at s k h (tokB_let ht))
  have hs : s.size ≤ 4 := by have := tokB_len ht; simpa using this
  have b0 := ws_take_bound s k ht
  have m := mul_small ((k : Int) + 1) ((s[k].toNat : Int) - 96) (by omega) (by omega) (by omega) (by omega)
  rw [ws_step s k h]
  rw [show ((s[k].toNat : Int) - 97 + 1) = (s[k].toNat : Int) - 96 from by omega]
  generalize ((k : Int) + 1) * ((s[k].toNat : Int) - 96) = x at *
  rw [IntWalk.wrap64_in x (by omega), IntWalk.wrap64_in _ (by omega)]

theorem ws_add' (s : ByteArray) (k : Nat) (h : k < s.size) (ht : tokB s.data.toList = true) :
    wrap64 (ws 0 (s.data.toList.take k) + wrap64 (((k : Int) + 1) * ((s[k].toNat : Int) - 96))) = ws 0 (s.data.toList.take (k + 1)) := by
  rw [← ws_add s k h ht]
  rw [show ((s[k].toNat : Int) - 97 + 1) = (s[k].toNat : Int) - 96 from by omega]

theorem next_no (n : Int) (h : (!decide (1 ≤ n)) = true ∨ (!decide (n ≤ 8)) = true) : (0 : Int) = nextOf n := by
  unfold nextOf
  rw [if_neg]
  simp at h; omega

theorem next_yes (n : Int) (h : (!decide (1 ≤ n)) = false ∧ (!decide (n ≤ 8)) = false) : n % 8 + 1 = nextOf n := by
  unfold nextOf
  rw [if_pos]
  simp at h; omega

set_option maxHeartbeats 400000 in
theorem l1Next_any (n : Int) (w : World) (h1 : 1 ≤ n) (h2 : n ≤ 8) :
    Calls Try.prog 57 #[.int .i64 n] w fun e w' => e = .returned (.int .i64 (n % 8 + 1)) ∧ w' = w := by
  go_enter Try.func57, Try.ntmps57
  go_wp2
  go_ret
  exact ⟨rfl, rfl⟩

set_option maxHeartbeats 400000 in
theorem l1Place_any (s : ByteArray) (w : World) (ht : tokB s.data.toList = true) :
    Calls Try.prog 56 #[.string s] w fun e w' => e = .returned (.int .i64 (ws 0 s.data.toList % 8 + 1)) ∧ w' = w := by
  have Ht := Lib.hid ht
  have hs : s.size ≤ 4 := by have := tokB_len ht; simpa using this
  clear ht
  go_enter Try.func56, Try.ntmps56
  go_wp2
  go_loop [3, 4] (fun n i => ∃ k : Nat, k ≤ s.size ∧ i = .int .i64 k ∧ n = .int .i64 (ws 0 (s.data.toList.take k))) (fun _ i => s.size - (intOf i).toNat)
  case atStart => exact ⟨0, Nat.zero_le _, rfl, rfl⟩
  case round =>
    obtain ⟨k, hk, rfl, rfl⟩ := hrel
    have hb := ws_take_bound s k Ht.out
    by_cases hlt : k < s.size
    · have hl := (letB_iff _).1 (let_at s k hlt (tokB_let Ht.out))
      have HS := Lib.hid (ws_add s k hlt Ht.out)
      go_wp2
      go_round
      case rel => exact ⟨k + 1, by omega, by go_num, by rw [HS.out]⟩
      case measure => simp [intOf]; omega
    · go_wp2
      go_ret
      exact ⟨ret_int (by rw [List.take_of_length_le (by simp; have : s.data.size = s.size := rfl; omega)]), rfl⟩

theorem placeOk_any (p : Int) (w : World) :
    Calls Try.prog 19 #[.int .i64 p] w fun e w' => e = .returned (.bool (decide (1 ≤ p) && decide (p ≤ 8))) ∧ w' = w := by
  by_cases h1 : 1 ≤ p
  · have d1 : decide (1 ≤ p) = true := by simpa using h1
    by_cases h2 : p ≤ 8
    · have d2 : decide (p ≤ 8) = true := by simpa using h2
      go_enter Try.func19, Try.ntmps19
      go_wp2_with fail
      go_ret
      exact ⟨by first | rfl | (rw [d1, d2]; rfl), rfl⟩
    · have d2 : decide (p ≤ 8) = false := by simpa using h2
      go_enter Try.func19, Try.ntmps19
      go_wp2_with fail
      go_ret
      exact ⟨by first | rfl | (rw [d1, d2]; rfl), rfl⟩
  · have d1 : decide (1 ≤ p) = false := by simpa using h1
    go_enter Try.func19, Try.ntmps19
    go_wp2_with fail
    go_ret
    exact ⟨by first | rfl | (rw [d1]; rfl), rfl⟩

end Go.Proofs.Ytgogokahpmljbaa
