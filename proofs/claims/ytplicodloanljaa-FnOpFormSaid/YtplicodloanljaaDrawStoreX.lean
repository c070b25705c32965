/- What the draws of chapter 2 answer. -/
import Derived.Test.YtplicodloanljaaDrawStore
namespace Go.Proofs.Ytplicodloanljaa
open Go.RowKit

/-- A drawn slice of slots: new memory, small, to be written. -/
structure DR (w0 w : World) (g off n cap : Nat) (xs : List Sl) : Prop where
  len : xs.length = n
  lo : 7 ≤ n
  hi : n ≤ 8
  cap0 : n ≤ cap
  cap1 : cap ≤ 8
  bnd : Bnd (-1) xs
  gs : g < w.heap.size
  new : w0.heap.size ≤ g
  sl : SlotsW w g off xs
  bel : Below w0.heap.size w0 w

theorem DSt.done {P : Nat} {w0 w1 w : World} {g off n cap : Nat} {xs : List Sl} (h : DSt w0.heap.size P w1 w g off xs) (hb : Below w0.heap.size w0 w1) (h1 : xs.length = n) (h2 : 7 ≤ n) (h3 : n ≤ 8) (h4 : n ≤ cap) (h5 : cap ≤ 8) (h6 : Bnd (-1) xs) : DR w0 w g off n cap xs :=
  ⟨h1, h2, h3, h4, h5, h6, h.gs, Nat.le_trans hb.size h.new, h.sl, hb.grown h.gr hb.size (fun k e => by cases e; exact Nat.le_refl _)⟩

end Go.Proofs.Ytplicodloanljaa
