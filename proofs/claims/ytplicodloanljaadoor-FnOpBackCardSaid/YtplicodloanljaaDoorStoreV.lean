/- The program's chapter 2, asked about a slice by its value. What the laws' comparisons of slots answer. -/
import Derived.Test.YtplicodloanljaaDoorStoreI
namespace Go.Proofs.YtplicodloanljaaDoor
open Go.RowKit

theorem sameSls_refl (xs : List Sl) : sameSls xs xs = true := by
  simp [sameSls, sameTo, sameSl]

theorem NewSl.below {B C : Nat} {w w' : World} {v : Value} {xs : List Sl} (h : NewSl B w v xs) (hb : Below C w w') (hC : w.heap.size ≤ C) : NewSl B w' v xs := by
  rcases h with h | ⟨g, cap, hv, h1, h2, h3, h4⟩
  · exact .inl h
  · refine .inr ⟨g, cap, hv, h1, Nat.lt_of_lt_of_le h2 hb.size, h3, h4.1.below hb (by omega), fun o => ?_⟩
    exact (hb.frozen (p := ⟨g, o, none⟩) (by show g < C; omega)).trans (h4.2 o)

theorem putB_len (xs : List Sl) (t : ByteArray) : (putB xs t).1.length ≤ xs.length := by
  unfold putB; split
  · rw [putS_len]; exact Nat.le_refl _
  · simp

theorem dropB_len (xs : List Sl) (p : Int) : (dropB xs p).1.length ≤ xs.length := by
  unfold dropB; split
  · rw [dropS_len]; exact Nat.le_refl _
  · simp

/-- Behind a call: whatever was there is as it was, with the sizes that the next step wants. -/
theorem bnext {w0 w w' : World} (h : Below w0.heap.size w0 w) (hb : Below w.heap.size w w') : Below w0.heap.size w0 w' := h.trans (hb.mono h.size)

theorem OwnSl.next {B E : Nat} {w w' : World} {v : Value} {xs : List Sl} (h : OwnSl B E w v xs) (hb : Below w.heap.size w w') (hE : E ≤ w.heap.size) : OwnSl B E w' v xs := h.below hb hE

end Go.Proofs.YtplicodloanljaaDoor

namespace Go.Proofs.YtplicodloanljaaDoor
open Go.RowKit
set_option maxRecDepth 100000

/-- All slots but number j + 1 are the same. -/
def butTo (xs ys : List Sl) (at' : Int) (k : Nat) : Bool := (List.range k).all fun i => decide ((i : Int) = at' - 1) || sameSl (nth xs i) (nth ys i)

end Go.Proofs.YtplicodloanljaaDoor
