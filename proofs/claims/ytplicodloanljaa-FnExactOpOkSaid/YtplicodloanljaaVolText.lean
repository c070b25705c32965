/- What the model's VolText answers. -/
import Derived.Test.YtplicodloanljaaVol
namespace Go.Proofs.Ytplicodloanljaa
open Go.RowKit
set_option linter.unusedVariables false
set_option maxRecDepth 100000

/-- What is told of a block. -/
def pieceAt (xs : List Sl) (b : Int) : ByteArray := if (b == 0) = true then ⟨#[45]⟩ else if ((nth xs (b - 1).toNat).uses == 0) = true then ⟨#[45]⟩ else (nth xs (b - 1).toNat).text

def textTo (nm : ByteArray) (xs : List Sl) (bs : List Int) : Nat → ByteArray
  | 0 => nm
  | k + 1 => textTo nm xs bs k ++ ⟨#[32]⟩ ++ pieceAt xs (bth bs k)

/-- VolText. -/
def textF (v : Vo) (xs : List Sl) : ByteArray := if (volB v && storeB xs) = true then textTo v.name xs v.blocks v.blocks.length else ⟨#[]⟩

theorem piece_size {xs : List Sl} (hs : storeB xs = true) (b : Int) (hb : b ≤ 8) : (pieceAt xs b).size ≤ 4 := by
  unfold pieceAt
  split
  · decide
  · split
    · decide
    · by_cases h : (b - 1).toNat < 8
      · have hok := storeB_ok hs (b - 1).toNat h
        simp only [okB, Bool.and_eq_true] at hok
        have := tokB_len hok.1.1
        simpa using this
      · omega

theorem nameB_size (s : ByteArray) (h : nameB s.data.toList = true) : s.size = 1 := by
  by_cases h1 : s.size = 1
  · exact h1
  · rw [nameB_other s h1] at h; cases h

theorem textTo_size {nm : ByteArray} {xs : List Sl} {bs : List Int} (hs : storeB xs = true) (hn : nm.size = 1) (hb : ∀ b ∈ bs, 0 ≤ b ∧ b ≤ 8) : ∀ k, k ≤ bs.length → (textTo nm xs bs k).size ≤ 1 + 5 * k
  | 0, _ => by simp [textTo, hn]
  | k + 1, h => by
    have h1 := textTo_size (nm := nm) hs hn hb k (by omega)
    have hm : bth bs k ∈ bs := by rw [bth_get _ _ (by omega)]; exact List.getElem_mem _
    have h2 := piece_size hs (bth bs k) (hb _ hm).2
    have e : (⟨#[32]⟩ : ByteArray).size = 1 := rfl
    simp only [textTo, ByteArray.size_append, e]; omega

end Go.Proofs.Ytplicodloanljaa
