/- The program's chapter 3, asked about a disk by its value. -/
import Derived.Test.YtgajhknljnhfmaaVolI
namespace Go.Proofs.Ytgajhknljnhfmaa
open Go.RowKit

theorem volOk_v (v : Value) (x : Vo) (w : World) (h : Vov w v x) (hs : x.name.size ≤ maxLen) :
    Calls Try.prog 45 #[v] w fun e w' => e = .returned (.bool (volB x)) ∧ Below w.heap.size w w' := by
  obtain ⟨a, n, c, rfl, hn, hn1, hx⟩ := h
  exact volOk_any x.name a n c x.blocks w hs hx hn hn1

theorem volUses_v (v : Value) (x : Vo) (p : Int) (w : World) (h : Vov w v x) (hs : x.name.size ≤ maxLen) :
    Calls Try.prog 41 #[v, .int .i64 p] w fun e w' => e = .returned (.int .i64 (usesF x p)) ∧ Below w.heap.size w w' := by
  obtain ⟨a, n, c, rfl, hn, hn1, hx⟩ := h
  exact volUses_any x.name a n c x.blocks p w hs hx hn hn1

theorem volText_v (v : Value) (x : Vo) (u : Value) (xs : List Sl) (w : World) (h : Vov w v x) (hs : x.name.size ≤ maxLen) (hv : Slv w u xs) (ht : Fits xs) :
    Calls Try.prog 47 #[v, u] w fun e w' => e = .returned (.string (textF x xs)) ∧ Below w.heap.size w w' := by
  obtain ⟨a, n, c, rfl, hn, hn1, hx⟩ := h
  exact volText_any x.name a n c x.blocks u xs w hs hx hn hn1 hv ht

end Go.Proofs.Ytgajhknljnhfmaa
