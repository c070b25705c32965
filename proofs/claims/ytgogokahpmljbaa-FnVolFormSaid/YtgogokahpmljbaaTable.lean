/- What the program's table of slots answers: an array of pieces with their counts. -/
import Derived.Test.YtgogokahpmljbaaSlotArg
import Derived.RegionTactic
import Derived.ChangeAlike
import Derived.Laws.ResultCell
namespace Go.Proofs.Ytgogokahpmljbaa
open Go.RowKit
set_option linter.unusedVariables false

/-- Slot i is in use and has the piece t. -/
def hitB (xs : List Sl) (t : ByteArray) (i : Nat) : Bool := decide (0 < (nth xs i).uses) && (nth xs i).text.toList == t.toList

/-- The first slot in use that has the piece t; 0: there is none. -/
def tfind (xs : List Sl) (t : ByteArray) : Int := match (List.range 8).find? (hitB xs t) with
  | some i => (i : Int) + 1
  | none => 0

theorem tfind_hit (xs : List Sl) (t : ByteArray) (k : Nat) (hk : k < 8) (h : hitB xs t k = true) (hno : ∀ j, j < k → hitB xs t j = false) : tfind xs t = (k : Int) + 1 := by
  have : (List.range 8).find? (hitB xs t) = some k := by
    rw [List.find?_range_eq_some]
    exact ⟨h, List.mem_range.2 hk, fun j hj => by simp [hno j hj]⟩
  simp only [tfind, this]

theorem tfind_none (xs : List Sl) (t : ByteArray) (hno : ∀ j, j < 8 → hitB xs t j = false) : tfind xs t = 0 := by
  have : (List.range 8).find? (hitB xs t) = none := by
    rw [List.find?_range_eq_none]
    exact fun j hj => by simp [hno j hj]
  simp only [tfind, this]

theorem drawn_drew {w : World} : Drawn w w.drew := ⟨1, rfl⟩

theorem Slots.at0 {w : World} {g : Nat} {xs : List Sl} (h : Slots w g 0 xs) (i : Nat) (hi : i < xs.length) :
    w.cell? ⟨g, i * 2, none⟩ = some (.string (nth xs i).text) ∧ w.cell? ⟨g, i * 2 + 1, none⟩ = some (.int .i64 (nth xs i).uses) := by
  have := h i hi
  rwa [Nat.zero_add] at this

set_option maxHeartbeats 800000 in
theorem tfind_any (g : Nat) (xs : List Sl) (t : ByteArray) (w : World) (hx : Slots w g 0 xs) (hn : xs.length = 8) :
    Calls Try.prog 40 #[.pointer (some ⟨g, 0, none⟩), .string t] w fun e w' => e = .returned (.int .i64 (tfind xs t)) ∧ Below w.heap.size w w' := by
  have l1 := hx.lt (by omega)
  have Hx := Lib.hid hx
  have Hn := Lib.hid hn
  clear hx hn
  go_enter Try.func40, Try.ntmps40
  go_wp2_with fail
  go_loopw [9] (fun i wr => ∃ k : Nat, k ≤ 8 ∧ i = .int .i64 (k : Int) ∧ (∀ j, j < k → hitB xs t j = false) ∧ Below w.heap.size w wr) (fun i _ => 8 - (intOf i).toNat)
  case atStart => exact ⟨0, by omega, rfl, fun j hj => by omega, Below.refl _ _⟩
  case round =>
    obtain ⟨k, hk, rfl, hno, hB⟩ := hrel
    have Hno := Lib.hid hno
    clear hno
    by_cases hlt : k < 8
    · obtain ⟨hc, hu⟩ := Hx.out.at0 k (by rw [Hn.out]; exact hlt)
      rw [← hB.cell (p := ⟨g, k * 2, none⟩) l1] at hc
      rw [← hB.cell (p := ⟨g, k * 2 + 1, none⟩) l1] at hu
      have Hh : Hid (hitB xs t k = (decide (0 < (nth xs k).uses) && (nth xs k).text.toList == t.toList)) := Lib.hid rfl
      obtain ⟨x, hxk⟩ : ∃ x, nth xs k = x := ⟨_, rfl⟩
      rw [hxk] at hc hu Hh
      clear hxk
      obtain ⟨t2, u⟩ := x
      simp only at hc hu Hh
      have l2 : g < wr.heap.size := Nat.lt_of_lt_of_le l1 hB.size
      by_cases h1 : 0 < u
      · have d1 : decide (0 < u) = true := by simpa using h1
        cases h2 : (t2.toList == t.toList)
        · rw [d1, h2] at Hh
          go_wp2_with fail
          go_region
          all_goals go_wp2_with fail
          all_goals go_roundw
          case rel => exact ⟨k + 1, by omega, by go_num, fun j hj => by
            by_cases e : j = k
            · subst e; exact Hh.out
            · exact Hno.out j (by omega), (hB.alloc hB.size _).drew⟩
          case measure => simp [intOf]; omega
        · rw [d1, h2] at Hh
          go_wp2_with fail
          go_region
          all_goals go_wp2_with fail
          all_goals go_ret
          all_goals exact ⟨ret_int (by rw [tfind_hit xs t k hlt Hh.out Hno.out]), (hB.alloc hB.size _).drew⟩
      · have d1 : decide (0 < u) = false := by simpa using h1
        rw [d1] at Hh
        go_wp2_with fail
        go_region
        all_goals go_wp2_with fail
        all_goals go_roundw
        case rel => exact ⟨k + 1, by omega, by go_num, fun j hj => by
          by_cases e : j = k
          · subst e; exact Hh.out
          · exact Hno.out j (by omega), (hB.alloc hB.size _).drew⟩
        case measure => simp [intOf]; omega
    · obtain rfl : k = 8 := by omega
      go_wp2_with fail
      go_ret
      exact ⟨ret_int (by rw [tfind_none xs t Hno.out]), hB⟩

end Go.Proofs.Ytgogokahpmljbaa
