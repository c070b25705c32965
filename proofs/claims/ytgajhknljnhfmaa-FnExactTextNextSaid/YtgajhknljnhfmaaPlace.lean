/- What the two functions TextPlace answer, and the model's TextNext. -/
import Derived.Test.YtgajhknljnhfmaaText
namespace Go.Proofs.Ytgajhknljnhfmaa
open Go.RowKit

theorem ret_int {k : IntKind} {a b : Int} (h : a = b) : Ending.returned (.int k a) = .returned (.int k b) := by rw [h]

theorem ws_add (s : ByteArray) (k : Nat) (h : k < s.size) (ht : tokB s.data.toList = true) :
    wrap64 (ws 0 (s.data.toList.take k) + wrap64 (((k : Int) + 1) * ((s[k].toNat : Int) - 97 + 1))) = ws 0 (s.data.toList.take (k + 1)) := by
  have hl := (letB_iff _).1 (let_at s k h (tokB_let ht))
  have hs : s.size ≤ 4 := by have := tokB_len ht; simpa using this
  have b0 := ws_take_bound s k ht
  have m := mul_small ((k : Int) + 1) ((s[k].toNat : Int) - 96) (by omega) (by omega) (by omega) (by omega)
  rw [ws_step s k h]
  rw [show ((s[k].toNat : Int) - 97 + 1) = (s[k].toNat : Int) - 96 from by omega]
  generalize ((k : Int) + 1) * ((s[k].toNat : Int) - 96) = x at *
  rw [IntWalk.wrap64_in x (by omega), IntWalk.wrap64_in _ (by omega)]

theorem ws_add' (s : ByteArray) (k : Nat) (h : k < s.size) (ht : tokB s.data.toList = true) :
    wrap64 (ws 0 (s.data.toList.take k) + wrap64 (((k : Int) + 1) * ((s[k].toNat : Int) - 96))) = ws 0 (s.data.toList.take (k + 1)) := by
  rw [← ws_add s k h ht]
  rw [show ((s[k].toNat : Int) - 97 + 1) = (s[k].toNat : Int) - 96 from by omega]

theorem next_no (n : Int) (h : (!decide (1 ≤ n)) = true ∨ (!decide (n ≤ 8)) = true) : (0 : Int) = nextOf n := by
  unfold nextOf
  rw [if_neg]
  simp at h; omega

theorem next_yes (n : Int) (h : (!decide (1 ≤ n)) = false ∧ (!decide (n ≤ 8)) = false) : n % 8 + 1 = nextOf n := by
  unfold nextOf
  rw [if_pos]
  simp at h; omega

set_option maxHeartbeats 400000 in
theorem letterValue_any (c : Int) (w : World) (h1 : 97 ≤ c) (h2 : c ≤ 100) :
    Calls Try.prog 72 #[.int .u8 c] w fun e w' => e = .returned (.int .i64 (c - 96)) ∧ w' = w := by
  go_enter Try.func72, Try.ntmps72
  go_wp2
  go_ret
  exact ⟨ret_int (by omega), rfl⟩

set_option maxHeartbeats 400000 in
theorem l1Next_any (n : Int) (w : World) (h1 : 1 ≤ n) (h2 : n ≤ 8) :
    Calls Try.prog 61 #[.int .i64 n] w fun e w' => e = .returned (.int .i64 (n % 8 + 1)) ∧ w' = w := by
  go_enter Try.func61, Try.ntmps61
  go_wp2
  go_ret
  exact ⟨rfl, rfl⟩

set_option maxHeartbeats 400000 in
theorem textNextS_any (n : Int) (w : World) :
    Calls Try.prog 23 #[.int .i64 n] w fun e w' => e = .returned (.int .i64 (nextOf n)) ∧ w' = w := by
  go_enter Try.func23, Try.ntmps23
  go_wp2_with (first
    | (go_at_call 60; refine (l6In_any _ _ _ _).mono ?_; rintro e w' ⟨rfl, rfl⟩)
    | (go_at_call 61; refine (l1Next_any _ _ (by simp at *; omega) (by simp at *; omega)).mono ?_; rintro e w' ⟨rfl, rfl⟩))
  · have h : (!decide (1 ≤ n)) = true ∨ (!decide (n ≤ 8)) = true := by assumption
    go_ret
    exact ⟨ret_int (next_no n h), rfl⟩
  · have h : (!decide (1 ≤ n)) = false ∧ (!decide (n ≤ 8)) = false := by assumption
    go_ret
    exact ⟨ret_int (next_yes n h), rfl⟩

set_option maxHeartbeats 400000 in
theorem l1Place_any (s : ByteArray) (w : World) (ht : tokB s.data.toList = true) :
    Calls Try.prog 94 #[.string s] w fun e w' => e = .returned (.int .i64 (ws 0 s.data.toList % 8 + 1)) ∧ w' = w := by
  have Ht := Lib.hid ht
  have hs : s.size ≤ 4 := by have := tokB_len ht; simpa using this
  clear ht
  go_enter Try.func94, Try.ntmps94
  go_wp2
  go_loop [3, 4] (fun n i => ∃ k : Nat, k ≤ s.size ∧ i = .int .i64 k ∧ n = .int .i64 (ws 0 (s.data.toList.take k))) (fun _ i => s.size - (intOf i).toNat)
  case atStart => exact ⟨0, Nat.zero_le _, rfl, rfl⟩
  case round =>
    obtain ⟨k, hk, rfl, rfl⟩ := hrel
    have hb := ws_take_bound s k Ht.out
    by_cases hlt : k < s.size
    · have hl := (letB_iff _).1 (let_at s k hlt (tokB_let Ht.out))
      have HS := Lib.hid (ws_add s k hlt Ht.out)
      go_wp2
      go_round
      case rel => exact ⟨k + 1, by omega, by go_num, by rw [HS.out]⟩
      case measure => simp [intOf]; omega
    · go_wp2
      go_ret
      exact ⟨ret_int (by rw [List.take_of_length_le (by simp; have : s.data.size = s.size := rfl; omega)]), rfl⟩

set_option maxHeartbeats 400000 in
theorem textPlace_any (s : ByteArray) (w : World) (hs : s.size ≤ maxLen) :
    Calls Try.prog 34 #[.string s] w fun e w' => e = .returned (.int .i64 (placeOf s.data.toList)) ∧ w' = w := by
  cases ht : tokB s.data.toList
  · have Hp := Lib.hid (placeOf_no ht)
    have Hc : Calls Try.prog 67 #[.string s] w fun e w' => e = .returned (.bool false) ∧ w' = w := by
      have := textOk_any s w hs
      rwa [ht] at this
    clear ht
    go_enter Try.func34, Try.ntmps34
    go_wp2_with (go_at_call 67; refine Hc.mono ?_; rintro e w' ⟨rfl, rfl⟩)
    go_ret
    exact ⟨ret_int (by rw [Hp.out]), rfl⟩
  · have Hp := Lib.hid (placeOf_yes ht)
    have Hc : Calls Try.prog 67 #[.string s] w fun e w' => e = .returned (.bool true) ∧ w' = w := by
      have := textOk_any s w hs
      rwa [ht] at this
    have Ht := Lib.hid ht
    have hs : s.size ≤ 4 := by have := tokB_len ht; simpa using this
    clear ht
    go_enter Try.func34, Try.ntmps34
    go_wp2_with (go_at_call 67; refine Hc.mono ?_; rintro e w' ⟨rfl, rfl⟩)
    go_loop [3, 10] (fun n i => ∃ k : Nat, k ≤ s.size ∧ i = .int .i64 k ∧ n = .int .i64 (ws 0 (s.data.toList.take k))) (fun _ i => s.size - (intOf i).toNat)
    case atStart => exact ⟨0, Nat.zero_le _, rfl, rfl⟩
    case round =>
      obtain ⟨k, hk, rfl, rfl⟩ := hrel
      have hb := ws_take_bound s k Ht.out
      by_cases hlt : k < s.size
      · have hl := (letB_iff _).1 (let_at s k hlt (tokB_let Ht.out))
        have HS := Lib.hid (ws_add' s k hlt Ht.out)
        go_wp2_with (go_at_call 72; refine (letterValue_any _ _ (by omega) (by omega)).mono ?_; rintro e w' ⟨rfl, rfl⟩)
        go_round
        case rel => exact ⟨k + 1, by omega, by go_num, by rw [HS.out]⟩
        case measure => simp [intOf]; omega
      · go_wp2
        go_ret
        exact ⟨ret_int (by rw [Hp.out, List.take_of_length_le (by simp; have : s.data.size = s.size := rfl; omega)]), rfl⟩

theorem textPlace_is (s : ByteArray) (b : Int) (w : World) (hs : s.size ≤ maxLen) (h : placeOf s.data.toList = b) :
    Calls Try.prog 34 #[.string s] w fun e w' => e = .returned (.int .i64 b) ∧ w' = w := by
  have := textPlace_any s w hs
  rwa [h] at this

theorem placeOk_any (p : Int) (w : World) :
    Calls Try.prog 77 #[.int .i64 p] w fun e w' => e = .returned (.bool (decide (1 ≤ p) && decide (p ≤ 8))) ∧ w' = w := by
  by_cases h1 : 1 ≤ p
  · have d1 : decide (1 ≤ p) = true := by simpa using h1
    by_cases h2 : p ≤ 8
    · have d2 : decide (p ≤ 8) = true := by simpa using h2
      go_enter Try.func77, Try.ntmps77
      go_wp2_with fail
      go_ret
      exact ⟨by first | rfl | (rw [d1, d2]; rfl), rfl⟩
    · have d2 : decide (p ≤ 8) = false := by simpa using h2
      go_enter Try.func77, Try.ntmps77
      go_wp2_with fail
      go_ret
      exact ⟨by first | rfl | (rw [d1, d2]; rfl), rfl⟩
  · have d1 : decide (1 ≤ p) = false := by simpa using h1
    go_enter Try.func77, Try.ntmps77
    go_wp2_with fail
    go_ret
    exact ⟨by first | rfl | (rw [d1]; rfl), rfl⟩

end Go.Proofs.Ytgajhknljnhfmaa
