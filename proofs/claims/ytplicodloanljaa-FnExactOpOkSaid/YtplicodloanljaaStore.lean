/- What the model's functions on slots answer. -/
import Derived.Test.YtplicodloanljaaPlace
import Derived.Deep.QuietTactic
import Derived.BigQuiet
import Derived.Deep.RegionHeld
namespace Go.Proofs.Ytplicodloanljaa
open Go.RowKit

/-- The cells from (g, off) on hold the slots xs. -/
def Slots (w : World) (g off : Nat) (xs : List Sl) : Prop :=
  ∀ i, i < xs.length → w.cell? ⟨g, off + i * 2, none⟩ = some (.string (nth xs i).text) ∧ w.cell? ⟨g, off + i * 2 + 1, none⟩ = some (.int .i64 (nth xs i).uses)

/-- The slice that begins at a holds the slots xs. -/
def Sls (w : World) (a : Option Addr) (xs : List Sl) : Prop := xs = [] ∨ ∃ g off, a = some ⟨g, off, none⟩ ∧ Slots w g off xs

/-- Some draws have been made, and nothing else. -/
def Drawn (w w' : World) : Prop := ∃ m, w' = w.drewN m

theorem Drawn.refl (w : World) : Drawn w w := ⟨0, rfl⟩

theorem Drawn.more {w a : World} (h : Drawn w a) (n : Nat) : Drawn w (a.drewN n) := by
  obtain ⟨m, rfl⟩ := h
  exact ⟨m + n, by rw [World.drewN_drewN]⟩

theorem Drawn.trans {a b c : World} (h : Drawn a b) (k : Drawn b c) : Drawn a c := by
  obtain ⟨m, rfl⟩ := k
  exact h.more m

theorem Drawn.cell {w a : World} (h : Drawn w a) (p : Addr) : a.cell? p = w.cell? p := by obtain ⟨m, rfl⟩ := h; rfl

theorem Drawn.frozen {w a : World} (h : Drawn w a) (p : Addr) : a.frozen? p = w.frozen? p := by obtain ⟨m, rfl⟩ := h; rfl

theorem Drawn.heap {w a : World} (h : Drawn w a) : a.heap = w.heap := by obtain ⟨m, rfl⟩ := h; rfl

theorem ret_pair {k : IntKind} {a b : Int} {c d : Bool} (h : (a, c) = (b, d)) : Ending.returned (.tuple #[.int k a, .bool c]) = .returned (.tuple #[.int k b, .bool d]) := by
  injection h with h1 h2
  rw [h1, h2]

end Go.Proofs.Ytplicodloanljaa
