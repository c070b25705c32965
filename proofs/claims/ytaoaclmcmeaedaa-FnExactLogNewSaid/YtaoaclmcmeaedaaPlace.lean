/- What the two functions TextPlace answer, and the model's TextNext. -/
import Derived.Test.YtaoaclmcmeaedaaText
namespace Go.Proofs.Ytaoaclmcmeaedaa
open Go.RowKit

theorem ret_int {k : IntKind} {a b : Int} (h : a = b) : Ending.returned (.int k a) = .returned (.int k b) := by rw [h]

theorem ws_add (s : ByteArray) (k : Nat) (h : k < s.size) (ht : tokB s.data.toList = true) :
    wrap64 (ws 0 (s.data.toList.take k) + wrap64 (((k : Int) + 1) * ((s[k].toNat : Int) - 97 + 1))) = ws 0 (s.data.toList.take (k + 1)) := by
  have hl := (letB_iff _).1 (let_at s k h (tokB_let ht))
  have hs : s.size ≤ 4 := by have := tokB_len ht; simpa using this
  have b0 := ws_take_bound s k ht
  have m := mul_small ((k : Int) + 1) ((s[k].toNat : Int) - 96) (by omega) (by omega) (by omega) (by omega)
  rw [ws_step s k h]
  rw [show ((s[k].toNat : Int) - 97 + 1) = (s[k].toNat : Int) - 96 from by omega]
  generalize ((k : Int) + 1) * ((s[k].toNat : Int) - 96) = x at *
  rw [IntWalk.wrap64_in x (by omega), IntWalk.wrap64_in _ (by omega)]

theorem ws_add' (s : ByteArray) (k : Nat) (h : k < s.size) (ht : tokB s.data.toList = true) :
    wrap64 (ws 0 (s.data.toList.take k) + wrap64 (((k : Int) + 1) * ((s[k].toNat : Int) - 96))) = ws 0 (s.data.toList.take (k + 1)) := by
  rw [← ws_add s k h ht]
  rw [show ((s[k].toNat : Int) - 97 + 1) = (s[k].toNat : Int) - 96 from by omega]

theorem next_no (n : Int) (h : (!decide (1 ≤ n)) = true ∨ (!decide (n ≤ 8)) = true) : (0 : Int) = nextOf n := by
  unfold nextOf
  rw [if_neg]
  simp at h; omega

theorem next_yes (n : Int) (h : (!decide (1 ≤ n)) = false ∧ (!decide (n ≤ 8)) = false) : n % 8 + 1 = nextOf n := by
  unfold nextOf
  rw [if_pos]
  simp at h; omega

end Go.Proofs.Ytaoaclmcmeaedaa
