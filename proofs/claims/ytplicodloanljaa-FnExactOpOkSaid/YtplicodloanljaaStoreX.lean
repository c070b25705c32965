/- What the model's StorePut, StoreDrop, StoreFree and StoreNew answer. -/
import Derived.Test.YtplicodloanljaaStoreW
namespace Go.Proofs.Ytplicodloanljaa
open Go.RowKit

/-- A slice of slots that a call has made: from block B on, to be written. -/
def NewSl (B : Nat) (w : World) (v : Value) (xs : List Sl) : Prop :=
  (xs = [] ∧ ∃ a c, v = .slice a 0 c) ∨ ∃ g cap, v = .slice (some ⟨g, 0, none⟩) xs.length cap ∧ B ≤ g ∧ g < w.heap.size ∧ xs.length ≤ cap ∧ SlotsW w g 0 xs

def putB (xs : List Sl) (t : ByteArray) : List Sl × Int × Bool := if goodB xs t = true then putS xs t else ([], 0, false)

def dropOk (xs : List Sl) (place : Int) : Bool := storeB xs && (decide (1 ≤ place) && decide (place ≤ 8)) && !((nth xs (place - 1).toNat).uses == 0)

def dropB (xs : List Sl) (place : Int) : List Sl × Bool := if dropOk xs place = true then (dropS xs (place - 1).toNat, true) else ([], false)

theorem putS_len (xs : List Sl) (t : ByteArray) : (putS xs t).1.length = xs.length := by
  unfold putS; split <;> simp

theorem dropS_len (xs : List Sl) (j : Nat) : (dropS xs j).length = xs.length := by
  unfold dropS; simp

theorem storeB_uses {xs : List Sl} (h : storeB xs = true) (i : Nat) (hi : i < 8) : 0 ≤ (nth xs i).uses ∧ (nth xs i).uses ≤ 1000 := by
  have := okB_range (storeB_ok h i hi); omega

theorem empty_slice (a : Option Addr) (c : Nat) (B : Nat) (w : World) : NewSl B w (.slice a 0 c) [] := .inl ⟨rfl, a, c, rfl⟩

theorem Sls.some_of {w : World} {a : Option Addr} {xs : List Sl} (hx : Sls w a xs) (h1 : storeB xs = true) : ∃ g off, a = some ⟨g, off, none⟩ ∧ Slots w g off xs := by
  rcases hx with rfl | h
  · rw [storeB_nil] at h1; cases h1
  · exact h

/-- How many of the first k slots are free. -/
def freeTo (xs : List Sl) : Nat → Int
  | 0 => 0
  | k + 1 => freeTo xs k + if ((nth xs k).uses == 0) = true then 1 else 0

def freeB (xs : List Sl) : Int := if storeB xs = true then freeTo xs 8 else -1

theorem freeTo_bound (xs : List Sl) (k : Nat) : 0 ≤ freeTo xs k ∧ freeTo xs k ≤ k := by
  induction k with
  | zero => simp [freeTo]
  | succ k ih => simp only [freeTo]; split <;> omega

def freshS : List Sl := List.replicate 8 Sl.none

end Go.Proofs.Ytplicodloanljaa
