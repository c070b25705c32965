/- What the program's chapter 2 answers. -/
import Derived.Test.YtaoaclmcmeaedaaVacant
import Derived.Test.YtaoaclmcmeaedaaStoreMath
namespace Go.Proofs.Ytaoaclmcmeaedaa
open Go.RowKit
set_option linter.unusedVariables false

theorem hit_text {xs : List Sl} {t : ByteArray} {i : Nat} (h : hitB xs t i = true) : TextAt xs i t = true ∧ 0 < (nth xs i).uses := by
  simp only [hitB, Bool.and_eq_true, decide_eq_true_eq] at h
  exact ⟨h.2, h.1⟩

theorem text_hit {xs : List Sl} {t : ByteArray} (hs : storeB xs = true) (ht : t.toList.isEmpty = false) (i : Nat) (hi : i < 8) (h : TextAt xs i t = true) : hitB xs t i = true := by
  have e := ba_ext _ _ h
  have hu := okB_use (storeB_ok hs i hi)
  rw [e, ht] at hu
  have h2 : ((nth xs i).text.toList == t.toList) = true := h
  simp only [hitB, hu, h2]; rfl

theorem tfind_at {xs : List Sl} {t : ByteArray} (hs : storeB xs = true) (ht : t.toList.isEmpty = false) (j : Nat) (hj : j < 8) (h : TextAt xs j t = true) : tfind xs t = (j : Int) + 1 := by
  refine tfind_hit xs t j hj (text_hit hs ht j hj h) fun i hi => ?_
  cases hh : hitB xs t i
  · rfl
  · have := dup_unique hs t ht i j (by omega) hj (hit_text hh).1 h
    omega

theorem tfind_miss {xs : List Sl} {t : ByteArray} (h : ∀ j, j < 8 → TextAt xs j t = false) : tfind xs t = 0 := by
  refine tfind_none xs t fun j hj => ?_
  cases hh : hitB xs t j
  · rfl
  · have := (hit_text hh).1
    rw [h j hj] at this; cases this

theorem text_any (xs : List Sl) (t : ByteArray) : (∃ j, j < 8 ∧ TextAt xs j t = true) ∨ ∀ j, j < 8 → TextAt xs j t = false := by
  by_cases h : ∃ j, j < 8 ∧ TextAt xs j t = true
  · exact .inl h
  · refine .inr fun j hj => ?_
    cases hh : TextAt xs j t
    · rfl
    · exact absurd ⟨j, hj, hh⟩ h

theorem tfind_ungood {xs : List Sl} {t : ByteArray} (hs : storeB xs = true) (hg : goodB xs t = false) : tfind xs t = 0 := by
  refine tfind_none xs t fun j hj => ?_
  cases hh : hitB xs t j
  · rfl
  · obtain ⟨h1, h2⟩ := hit_text hh
    have e := ba_ext _ _ h1
    have hok := storeB_ok hs j hj
    have hu := okB_use hok
    rw [e] at hu
    have d : decide (0 < (nth xs j).uses) = true := by simpa using h2
    rw [d] at hu
    have hemp : t.toList.isEmpty = false := by
      cases hb : t.toList.isEmpty
      · rfl
      · rw [hb] at hu; cases hu
    have htk : tokB t.data.toList = true := by
      simp only [okB, Bool.and_eq_true] at hok
      rw [← e]; exact hok.1.1
    simp [goodB, hs, htk, hemp] at hg

theorem find_same {xs : List Sl} {t : ByteArray} (hs : storeB xs = true) : findB xs t = (tfind xs t, tfind xs t != 0) := by
  cases hg : goodB xs t
  · rw [tfind_ungood hs hg]; simp [findB, hg]
  · have ht : t.toList.isEmpty = false := by
      simp only [goodB, Bool.and_eq_true] at hg; simpa using hg.2
    rcases text_any xs t with ⟨j, hj, h⟩ | h
    · have e := findS_at hs t ht j hj h
      rw [tfind_at hs ht j hj h]
      simp only [findB, hg, e, and_self, if_true]
      congr 1
    · have hf : (findS xs t).2 = false := by
        rcases findS_none xs t h with ⟨k, _, _, _, e⟩ | ⟨_, e⟩ <;> rw [e]
      rw [tfind_miss h]; simp [findB, hf]

theorem start_place (t : ByteArray) (h : tokB t.data.toList = true) : placeOf t.data.toList = ((startOf t : Nat) : Int) + 1 := by
  rw [placeOf_yes h]
  unfold startOf
  rw [Int.toNat_of_nonneg (Int.emod_nonneg _ (by omega))]

theorem spot_start (s k : Nat) : (spotAt ((s : Int) + 1) k).1 = (((s + k) % 8 : Nat) : Int) + 1 := by
  unfold spotAt; simp only; omega

theorem free_start (xs : List Sl) (s k : Nat) : freeAt xs (spotAt ((s : Int) + 1) k).1 = ((nth xs ((s + k) % 8)).uses == 0) := by
  rw [spot_start]
  unfold freeAt
  rw [show ((((s + k) % 8 : Nat) : Int) + 1 - 1).toNat = (s + k) % 8 from by omega]

theorem tspot_good {xs : List Sl} {t : ByteArray} (hg : goodB xs t = true) : tspot xs t (placeOf t.data.toList) = (findS xs t).1 := by
  have hg2 := hg
  simp only [goodB, Bool.and_eq_true] at hg2
  obtain ⟨⟨hs, htk⟩, hem⟩ := hg2
  have ht : t.toList.isEmpty = false := by simpa using hem
  rw [start_place t htk]
  have hp : 1 ≤ ((startOf t : Nat) : Int) + 1 ∧ ((startOf t : Nat) : Int) + 1 ≤ 8 := by have := startOf_lt t; omega
  rcases text_any xs t with ⟨j, hj, h⟩ | h
  · have e := tfind_at hs ht j hj h
    rw [findS_at hs t ht j hj h, tspot, e, if_neg (by omega)]
  · rw [tspot, tfind_miss h, if_pos rfl]
    rcases findS_none xs t h with ⟨k, hk, h1, h2, e⟩ | ⟨h1, e⟩
    · rw [e]
      refine (tvac_first xs _ (spots (((startOf t : Nat) : Int) + 1) k) (spotAt (((startOf t : Nat) : Int) + 1) k) ?_ ?_ ?_).trans (spot_start _ _)
      · rw [← spots_succ]; exact spots_pre _ _ hp (by omega)
      · intro y hy
        obtain ⟨i, hi, rfl⟩ := List.mem_map.1 hy
        rw [free_start]
        simpa using h2 i (List.mem_range.1 hi)
      · rw [free_start, h1]; rfl
    · rw [e]
      refine tvac_none xs _ fun y hy => ?_
      rw [← spots_eight _ hp] at hy
      obtain ⟨i, hi, rfl⟩ := List.mem_map.1 hy
      rw [free_start]
      simpa using h1 _ (Nat.mod_lt _ (by omega))

theorem put_same {xs : List Sl} {t : ByteArray} (hg : goodB xs t = true) : putB xs t = ((tput xs t (placeOf t.data.toList)).1, (tput xs t (placeOf t.data.toList)).2, (tput xs t (placeOf t.data.toList)).2 != 0) := by
  have hs : storeB xs = true := by
    simp only [goodB, Bool.and_eq_true] at hg; exact hg.1.1
  have hr := findS_range xs t
  simp only [putB, hg, if_true, putS, tput, tspot_good hg]
  by_cases h0 : (findS xs t).1 = 0
  · rw [if_pos (.inl h0), if_pos (.inl h0)]; rfl
  · have hu := okB_range (storeB_ok hs ((findS xs t).1 - 1).toNat (by omega))
    by_cases h9 : (nth xs ((findS xs t).1 - 1).toNat).uses = 99
    · rw [if_pos (.inr (by omega)), if_pos (.inr h9)]; rfl
    · rw [if_neg (fun h => h.elim h0 (fun h => by omega)), if_neg (fun h => h.elim h0 h9)]
      simp only [Prod.mk.injEq, true_and]
      simpa using h0

theorem freshS_len : freshS.length = 8 := rfl

theorem NewSl.mono {B C : Nat} {w : World} {v : Value} {xs : List Sl} (h : NewSl B w v xs) (hC : C ≤ B) : NewSl C w v xs := by
  rcases h with h | ⟨g, cap, hv, h1, h2⟩
  · exact .inl h
  · exact .inr ⟨g, cap, hv, Nat.le_trans hC h1, h2⟩

/-- A table that a call of its own has been laid into. -/
theorem laid_below {w w1 w2 : World} {t : TypeId} {cs : Array Value} (hb : Below w.heap.size w w1) (hg : (w1.alloc (.cells cs t)).grownBy w2 (some w1.heap.size)) : Below w.heap.size w w2 ∧ w1.heap.size < w2.heap.size :=
  ⟨(hb.alloc hb.size _).grown hg (by simp; have := hb.size; omega) (fun k e => by cases e; exact hb.size), by have := hg.size; simp at this; omega⟩

theorem tput_len (xs : List Sl) (t : ByteArray) (p : Int) : (tput xs t p).1.length = xs.length := by
  unfold tput; split <;> simp

end Go.Proofs.Ytaoaclmcmeaedaa
