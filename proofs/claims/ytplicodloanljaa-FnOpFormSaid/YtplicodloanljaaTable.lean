/- What the program's table of slots answers: an array of pieces with their counts. -/
import Derived.Test.YtplicodloanljaaSlotArg
import Derived.RegionTactic
import Derived.ChangeAlike
import Derived.Laws.ResultCell
namespace Go.Proofs.Ytplicodloanljaa
open Go.RowKit
set_option linter.unusedVariables false

/-- Slot i is in use and has the piece t. -/
def hitB (xs : List Sl) (t : ByteArray) (i : Nat) : Bool := decide (0 < (nth xs i).uses) && (nth xs i).text.toList == t.toList

/-- The first slot in use that has the piece t; 0: there is none. -/
def tfind (xs : List Sl) (t : ByteArray) : Int := match (List.range 8).find? (hitB xs t) with
  | some i => (i : Int) + 1
  | none => 0

theorem tfind_hit (xs : List Sl) (t : ByteArray) (k : Nat) (hk : k < 8) (h : hitB xs t k = true) (hno : ∀ j, j < k → hitB xs t j = false) : tfind xs t = (k : Int) + 1 := by
  have : (List.range 8).find? (hitB xs t) = some k := by
    rw [List.find?_range_eq_some]
    exact ⟨h, List.mem_range.2 hk, fun j hj => by simp [hno j hj]⟩
  simp only [tfind, this]

theorem tfind_none (xs : List Sl) (t : ByteArray) (hno : ∀ j, j < 8 → hitB xs t j = false) : tfind xs t = 0 := by
  have : (List.range 8).find? (hitB xs t) = none := by
    rw [List.find?_range_eq_none]
    exact fun j hj => by simp [hno j hj]
  simp only [tfind, this]

theorem drawn_drew {w : World} : Drawn w w.drew := ⟨1, rfl⟩

theorem Slots.at0 {w : World} {g : Nat} {xs : List Sl} (h : Slots w g 0 xs) (i : Nat) (hi : i < xs.length) :
    w.cell? ⟨g, i * 2, none⟩ = some (.string (nth xs i).text) ∧ w.cell? ⟨g, i * 2 + 1, none⟩ = some (.int .i64 (nth xs i).uses) := by
  have := h i hi
  rwa [Nat.zero_add] at this

end Go.Proofs.Ytplicodloanljaa
