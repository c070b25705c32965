/- Disks that a call has made: the model's l3Copy. -/
import Derived.Test.YtplicodloanljaaVolArg
import Derived.Deep.RegionHeld3
import Derived.Deep.AppendLies
import Derived.Deep.RegionLaw
import Derived.OwnWalk
namespace Go.Proofs.Ytplicodloanljaa
open Go.RowKit
set_option linter.unusedVariables false
set_option maxRecDepth 100000

/-- A slice of blocks, not empty, in a block from B on, to be written. -/
def OwnBlk (B : Nat) (w : World) (v : Value) (bs : List Int) : Prop :=
  ∃ g cap, v = .slice (some ⟨g, 0, none⟩) bs.length cap ∧ B ≤ g ∧ g < w.heap.size ∧ bs.length ≤ cap ∧ 0 < bs.length ∧ IntsW w g bs

theorem cellI_one (bs : List Int) : ∀ u ∈ cellI bs, u.oneCell' = true := by
  intro u hu
  obtain ⟨b, _, rfl⟩ := List.mem_map.1 hu
  rfl

theorem cellI_len (bs : List Int) : (cellI bs).length = bs.length := by simp [cellI]

theorem intsAt_cells {w : World} {g off : Nat} {bs : List Int} (h : IntsAt w g off bs) : ∀ j u, (cellI bs)[j]? = some u → w.cell? ((⟨g, off, none⟩ : Addr).add j) = some u := by
  intro j u hj
  have hl : j < bs.length := by have := (List.getElem?_eq_some_iff.1 hj).1; rwa [cellI_len] at this
  rw [cellI_at bs j hl] at hj
  rw [add_lit, h j hl, hj]

theorem ownBlk_of {w : World} {base : Nat} {e : TypeId} {g n cap : Nat} {bs : List Int} (h : w.ownsRow base e 1 (.slice (some ⟨g, 0, none⟩) n cap) n (cellI bs)) (h0 : 0 < n) (hl : bs.length = n) : OwnBlk base w (.slice (some ⟨g, 0, none⟩) n cap) bs := by
  obtain ⟨g', cap', hv, hb, hlt, hc, hs⟩ := ints_of_own h h0 hl
  exact ⟨g', cap', by rw [hl]; exact hv, hb, hlt, by rw [hl]; exact hc, by rw [hl]; exact h0, hs⟩

theorem ownBlk_mono {B C : Nat} {w : World} {v : Value} {bs : List Int} (h : OwnBlk B w v bs) (hC : C ≤ B) : OwnBlk C w v bs := by
  obtain ⟨g, cap, hv, h1, h2⟩ := h
  exact ⟨g, cap, hv, Nat.le_trans hC h1, h2⟩

theorem ownBlk_setCell {B : Nat} {w : World} {v : Value} {bs : List Int} (h : OwnBlk B w v bs) (p : Addr) (hp : p.block < B) (u : Value) : OwnBlk B (w.setCell p u) v bs := by
  obtain ⟨g, cap, hv, h1, h2, h3, h4, h5⟩ := h
  exact ⟨g, cap, hv, h1, by simpa [World.setCell] using h2, h3, h4, intsW_kept h5 (grownBy_setCell w p u) h2 (fun e => by injection e; omega)⟩

theorem ownBlk_below {B C : Nat} {w w' : World} {v : Value} {bs : List Int} (h : OwnBlk B w v bs) (hb : Below C w w') (hC : w.heap.size ≤ C) : OwnBlk B w' v bs := by
  obtain ⟨g, cap, hv, h1, h2, h3, h4, h5⟩ := h
  exact ⟨g, cap, hv, h1, Nat.lt_of_lt_of_le h2 hb.size, h3, h4, intsW_below h5 hb (by omega)⟩

end Go.Proofs.Ytplicodloanljaa
