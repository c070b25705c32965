/- What the program's put answers, and leaves in the table. -/
import Derived.Test.YtplicodloanljaaVacant
namespace Go.Proofs.Ytplicodloanljaa
open Go.RowKit
set_option linter.unusedVariables false

theorem tvac_range (xs : List Sl) (p : Int) : 0 ≤ tvac xs p ∧ tvac xs p ≤ 8 := by
  unfold tvac
  cases (spotsFrom p).find? (fun x => freeAt xs x.1) with
  | none => simp
  | some v => have := v.2; simp only; omega

theorem tvac_free (xs : List Sl) (p : Int) (h : tvac xs p ≠ 0) : (nth xs (tvac xs p - 1).toNat).uses = 0 := by
  unfold tvac at h ⊢
  cases hf : (spotsFrom p).find? (fun x => freeAt xs x.1) with
  | none => rw [hf] at h; exact absurd rfl h
  | some v =>
    have := List.find?_some hf
    simpa [freeAt] using this

/-- The slot that a put takes. -/
def tspot (xs : List Sl) (t : ByteArray) (p : Int) : Int := if tfind xs t = 0 then tvac xs p else tfind xs t

def tput (xs : List Sl) (t : ByteArray) (p : Int) : List Sl × Int :=
  if tspot xs t p = 0 ∨ (nth xs (tspot xs t p - 1).toNat).uses = 99 then (xs, 0)
  else (xs.set (tspot xs t p - 1).toNat ⟨t, (nth xs (tspot xs t p - 1).toNat).uses + 1⟩, tspot xs t p)

theorem tput_no (xs : List Sl) (t : ByteArray) (p : Int) (h : tspot xs t p = 0) : tput xs t p = (xs, 0) := by
  unfold tput; rw [if_pos (.inl h)]

theorem tput_full (xs : List Sl) (t : ByteArray) (p : Int) (j : Nat) (h : tspot xs t p = (j : Int) + 1) (hu : (nth xs j).uses = 99) : tput xs t p = (xs, 0) := by
  unfold tput; rw [h, show ((j : Int) + 1 - 1).toNat = j from by omega, if_pos (.inr hu)]

theorem tput_yes (xs : List Sl) (t : ByteArray) (p : Int) (j : Nat) (h : tspot xs t p = (j : Int) + 1) (hu : (nth xs j).uses ≠ 99) : tput xs t p = (xs.set j ⟨t, (nth xs j).uses + 1⟩, (j : Int) + 1) := by
  unfold tput
  rw [h, show ((j : Int) + 1 - 1).toNat = j from by omega, if_neg (fun e => e.elim (fun e => by omega) hu)]

/-- The table has changed, and else only new blocks have come. -/
def TurnedTab (w w' : World) (g : Nat) : Prop := ∃ w1, Below w.heap.size w w1 ∧ w1.grownBy w' (some g)

end Go.Proofs.Ytplicodloanljaa
