/- What the laws of chapter 2 draw on: the draws, the comparisons, the mathematics. -/
import Derived.Test.YtaoaclmcmeaedaaStoreV
import Derived.Test.YtaoaclmcmeaedaaStoreMath
import Derived.Test.YtaoaclmcmeaedaaDrawStore
namespace Go.Proofs.Ytaoaclmcmeaedaa
open Go.RowKit
set_option maxRecDepth 100000

theorem DR.slv {w0 w : World} {g off n c : Nat} {xs : List Sl} (h : DR w0 w g off n c xs) : Slv w (.slice (some ⟨g, off, none⟩) n c) xs :=
  ⟨_, _, _, rfl, h.len, by have := h.hi; omega, .inr ⟨g, off, rfl, h.sl.1⟩⟩

theorem DR.next {w0 w w' : World} {g off n c : Nat} {xs : List Sl} (h : DR w0 w g off n c xs) (hb : Below w.heap.size w w') : DR w0 w' g off n c xs :=
  ⟨h.len, h.lo, h.hi, h.cap0, h.cap1, h.bnd, Nat.lt_of_lt_of_le h.gs hb.size, h.new, ⟨h.sl.1.below hb h.gs, fun o => (hb.frozen (p := ⟨g, o, none⟩) h.gs).trans (h.sl.2 o)⟩, h.bel.trans (hb.mono h.bel.size)⟩

theorem DR.drawn {w0 w w' : World} {g off n c : Nat} {xs : List Sl} (h : DR w0 w g off n c xs) (hd : Drawn w w') : DR w0 w' g off n c xs := h.next (hd.below _)

theorem findB_good {xs : List Sl} {t : ByteArray} (h : goodB xs t = true) : findB xs t = if (findS xs t).2 = true then findS xs t else (0, false) := by simp [findB, h]

theorem findB_hit {xs : List Sl} {t : ByteArray} (hs : storeB xs = true) (hg : goodB xs t = true) (he : t.toList.isEmpty = false) (j : Nat) (hj : j < 8) (h : TextAt xs j t = true) : findB xs t = ((j : Int) + 1, true) := by
  rw [findB_good hg, findS_at hs t he j hj h, if_pos rfl]

theorem findB_miss {xs : List Sl} {t : ByteArray} (hg : goodB xs t = true) (h : ∀ j, j < 8 → TextAt xs j t = false) : findB xs t = (0, false) := by
  rw [findB_good hg]
  cases hf : (findS xs t).2
  · rw [if_neg (by simp)]
  · obtain ⟨j, hj, _, hx⟩ := findS_true xs t hf
    rw [h j hj] at hx; cases hx

end Go.Proofs.Ytaoaclmcmeaedaa
