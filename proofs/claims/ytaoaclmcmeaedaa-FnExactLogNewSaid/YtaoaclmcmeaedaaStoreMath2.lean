/- Plain mathematics on stores: the cases of a put, and what a drop brings back. -/
import Derived.Test.YtaoaclmcmeaedaaStoreLaw
namespace Go.Proofs.Ytaoaclmcmeaedaa
open Go.RowKit

theorem goodB_iff (xs : List Sl) (t : ByteArray) : goodB xs t = true ↔ storeB xs = true ∧ tokB t.data.toList = true ∧ t.toList.isEmpty = false := by
  simp [goodB, and_assoc]

/-- What a put of a piece comes to, where it can be done. -/
structure PutOk (xs : List Sl) (t : ByteArray) (j : Nat) : Prop where
  lt : j < 8
  eq : putB xs t = (xs.set j ⟨t, (nth xs j).uses + 1⟩, (j : Int) + 1, true)
  le : 0 ≤ (nth xs j).uses
  up : (nth xs j).uses < 99
  was : (TextAt xs j t = true ∧ (nth xs j).uses ≠ 0) ∨ ((nth xs j).uses = 0 ∧ ∀ i, i < 8 → TextAt xs i t = false)
  ok : storeB (xs.set j ⟨t, (nth xs j).uses + 1⟩) = true

theorem okB_empty {x : Sl} (h : okB x = true) : (x.uses == 0) = x.text.toList.isEmpty := by
  simp only [okB, Bool.and_eq_true, emptyB] at h
  exact eq_of_beq h.2

theorem put_cases (xs : List Sl) (t : ByteArray) (hg : goodB xs t = true) :
    (∃ j, PutOk xs t j ∧ (findB xs t = ((j : Int) + 1, true) ∧ TextAt xs j t = true ∨ findB xs t = (0, false) ∧ (nth xs j).uses = 0 ∧ ∃ k, k < 8 ∧ j = (startOf t + k) % 8 ∧ ∀ q, q < k → (nth xs ((startOf t + q) % 8)).uses ≠ 0)) ∨
    (putB xs t = (xs, 0, false) ∧ ((∃ j : Nat, j < 8 ∧ findB xs t = ((j : Int) + 1, true) ∧ TextAt xs j t = true ∧ 99 ≤ (nth xs j).uses) ∨ (findB xs t = (0, false) ∧ (∀ j, j < 8 → TextAt xs j t = false) ∧ ∀ j, j < 8 → (nth xs j).uses ≠ 0))) := by
  obtain ⟨hs, htk, he⟩ := (goodB_iff xs t).1 hg
  have hl := storeB_len hs
  have hput : putB xs t = putS xs t := by simp [putB, hg]
  have okx : ∀ u : Int, 0 ≤ u → u < 99 → okB ⟨t, u + 1⟩ = true := by
    intro u h0 h1
    have e1 : ((u + 1 : Int) == 0) = false := by simp; omega
    simp only [okB, htk, emptyB, he, e1]
    simp
    omega
  by_cases hex : ∃ j, j < 8 ∧ TextAt xs j t = true
  · obtain ⟨j, hj, hx⟩ := hex
    have hf := findS_at hs t he j hj hx
    have hfb := findB_hit hs hg he j hj hx
    have hu := okB_range (storeB_ok hs j hj)
    have ej : ((j : Int) + 1 - 1).toNat = j := by omega
    have hne : (nth xs j).uses ≠ 0 := by
      intro h0
      have := okB_empty (storeB_ok hs j hj)
      rw [h0] at this
      have e := ba_ext _ _ hx
      rw [e, he] at this
      simp at this
    by_cases h99 : 99 ≤ (nth xs j).uses
    · right
      refine ⟨?_, .inl ⟨j, hj, hfb, hx, h99⟩⟩
      rw [hput]; unfold putS; rw [hf]
      simp only [ej]
      rw [if_pos (.inr h99)]
    · left
      refine ⟨j, ⟨hj, ?_, hu.1, by omega, .inl ⟨hx, hne⟩, ?_⟩, .inl ⟨hfb, hx⟩⟩
      · rw [hput]; unfold putS; rw [hf]
        simp only [ej]
        rw [if_neg (by omega)]
      · refine storeB_set hs j _ hj (okx _ hu.1 (by omega)) (.inr fun i hi hij => ?_)
        cases hc : TextAt xs i t
        · rfl
        · exact absurd (dup_unique hs t he i j hi hj hc hx) hij
  · have hno : ∀ j, j < 8 → TextAt xs j t = false := by
      intro j hj
      cases hc : TextAt xs j t
      · rfl
      · exact absurd ⟨j, hj, hc⟩ hex
    have hfb := findB_miss hg hno
    rcases findS_none xs t hno with ⟨k, hk, h0, hq, hf⟩ | ⟨hall, hf⟩
    · left
      have hj : (startOf t + k) % 8 < 8 := Nat.mod_lt _ (by omega)
      have ej : ((((startOf t + k) % 8 : Nat) : Int) + 1 - 1).toNat = (startOf t + k) % 8 := by omega
      refine ⟨(startOf t + k) % 8, ⟨hj, ?_, by omega, by omega, .inr ⟨h0, hno⟩, ?_⟩, .inr ⟨hfb, h0, k, hk, rfl, hq⟩⟩
      · rw [hput]; unfold putS; rw [hf]
        simp only [ej]
        rw [if_neg (by omega)]
      · exact storeB_set hs _ _ hj (okx _ (by omega) (by omega)) (.inr fun i hi _ => hno i hi)
    · right
      refine ⟨?_, .inr ⟨hfb, hno, hall⟩⟩
      rw [hput]; unfold putS; rw [hf]
      simp

theorem PutOk.text {xs : List Sl} {t : ByteArray} {j : Nat} (h : PutOk xs t j) (hl : xs.length = 8) : TextAt (xs.set j ⟨t, (nth xs j).uses + 1⟩) j t = true := by
  unfold TextAt
  rw [nth_set _ _ _ _ (by have := h.lt; omega), if_pos rfl]
  simp

theorem PutOk.find {xs : List Sl} {t : ByteArray} {j : Nat} (h : PutOk xs t j) (hg : goodB xs t = true) : findB (xs.set j ⟨t, (nth xs j).uses + 1⟩) t = ((j : Int) + 1, true) := by
  obtain ⟨hs, htk, he⟩ := (goodB_iff xs t).1 hg
  exact findB_hit h.ok ((goodB_iff _ _).2 ⟨h.ok, htk, he⟩) he j h.lt (h.text (storeB_len hs))

theorem freeB_of {xs : List Sl} (h : storeB xs = true) : freeB xs = freeTo xs 8 := by simp [freeB, h]

theorem PutOk.free {xs : List Sl} {t : ByteArray} {j : Nat} (h : PutOk xs t j) (hs : storeB xs = true) : freeB (xs.set j ⟨t, (nth xs j).uses + 1⟩) = freeB xs - (if (nth xs j).uses = 0 then 1 else 0) := by
  have hl := storeB_len hs
  rw [freeB_of h.ok, freeB_of hs, freeTo_set _ _ _ (by have := h.lt; omega), if_pos h.lt]
  have e1 : (((nth xs j).uses + 1 : Int) == 0) = false := by have := h.le; simp; omega
  rw [e1]
  by_cases hz : (nth xs j).uses = 0
  · have e2 : ((nth xs j).uses == 0) = true := by simp [hz]
    rw [e2, if_pos hz]; simp; omega
  · have e2 : ((nth xs j).uses == 0) = false := by simp [hz]
    rw [e2, if_neg hz]; simp

theorem butTo_set (xs : List Sl) (j : Nat) (x : Sl) (hj : j < xs.length) (n : Nat) : butTo (xs.set j x) xs ((j : Int) + 1) n = true := by
  simp only [butTo, List.all_eq_true]
  intro i _
  by_cases e : i = j
  · subst e; simp
  · rw [nth_set _ _ _ _ hj, if_neg (fun e' => e e'.symm)]
    simp [sameSl]

theorem sameTo_of (xs ys : List Sl) (n : Nat) (h : ∀ i, i < n → nth xs i = nth ys i) : sameTo xs ys n = true := by
  simp only [sameTo, List.all_eq_true]
  intro i hi
  rw [h i (List.mem_range.1 hi)]
  simp [sameSl]

theorem sameSls_of (xs ys : List Sl) (hl : xs.length = ys.length) (h : ∀ i, i < xs.length → nth xs i = nth ys i) : sameSls xs ys = true := by
  simp [sameSls, hl, sameTo_of xs ys ys.length (fun i hi => h i (by omega))]

theorem empty_list : (⟨#[]⟩ : ByteArray).toList = [] := by rw [ByteArray.toList_eq]

theorem okB_none : okB ⟨⟨#[]⟩, 0⟩ = true := by
  simp [okB, emptyB, tokB]

theorem empty_ba (t : ByteArray) (h : t.toList.isEmpty = true) : t = ⟨#[]⟩ := by
  apply ba_ext
  have : t.toList = [] := by simpa using h
  rw [this, empty_list]; rfl

/-- What was put, and dropped, is as it was. -/
theorem put_drop {xs : List Sl} {t : ByteArray} {j : Nat} (h : PutOk xs t j) (hs : storeB xs = true) : ∃ zs, dropB (xs.set j ⟨t, (nth xs j).uses + 1⟩) ((j : Int) + 1) = (zs, true) ∧ sameSls zs xs = true := by
  have hl := storeB_len hs
  have hj := h.lt
  have hjl : j < xs.length := by omega
  have ej : ((j : Int) + 1 - 1).toNat = j := by omega
  have en : nth (xs.set j ⟨t, (nth xs j).uses + 1⟩) j = ⟨t, (nth xs j).uses + 1⟩ := by rw [nth_set _ _ _ _ hjl, if_pos rfl]
  have hd : dropOk (xs.set j ⟨t, (nth xs j).uses + 1⟩) ((j : Int) + 1) = true := by
    unfold dropOk
    rw [h.ok, ej, en]
    have e1 : (((nth xs j).uses + 1 : Int) == 0) = false := by have := h.le; simp; omega
    simp only [e1]
    simp; omega
  refine ⟨_, by unfold dropB; rw [if_pos hd, ej], sameSls_of _ _ (by rw [dropS_len, List.length_set]) (fun i hi => ?_)⟩
  unfold dropS
  rw [en, List.set_set, nth_set _ _ _ _ hjl]
  by_cases e : j = i
  · subst e
    rw [if_pos rfl]
    simp only
    rw [show (nth xs j).uses + 1 - 1 = (nth xs j).uses from by omega]
    rcases h.was with ⟨hx, hne⟩ | ⟨h0, _⟩
    · rw [if_neg hne]
      have := ba_ext _ _ hx
      rw [← this]
    · rw [if_pos h0]
      have he := okB_empty (storeB_ok hs j hj)
      rw [h0] at he
      have := empty_ba _ (he.symm.trans (by rfl) |>.trans (by rfl) : (nth xs j).text.toList.isEmpty = true)
      rw [← this]
  · rw [if_neg e]

/-- What a drop comes to, where it can be done. -/
theorem drop_cases (xs : List Sl) (p : Int) (hs : storeB xs = true) (h1 : 1 ≤ p) (h2 : p ≤ 8) :
    ∃ j : Nat, j < 8 ∧ p = (j : Int) + 1 ∧ ((dropB xs p = ([], false) ∧ (nth xs j).uses = 0) ∨ (dropB xs p = (dropS xs j, true) ∧ 0 < (nth xs j).uses ∧ storeB (dropS xs j) = true)) := by
  have hl := storeB_len hs
  refine ⟨(p - 1).toNat, by omega, by omega, ?_⟩
  have hj : (p - 1).toNat < 8 := by omega
  have hjl : (p - 1).toNat < xs.length := by omega
  generalize hjj : (p - 1).toNat = j at *
  have hu := okB_range (storeB_ok hs j hj)
  have d1 : decide (1 ≤ p) = true := by simpa using h1
  have d2 : decide (p ≤ 8) = true := by simpa using h2
  by_cases h0 : (nth xs j).uses = 0
  · left
    refine ⟨?_, h0⟩
    unfold dropB dropOk
    rw [hjj, h0]; simp
  · right
    have e0 : ((nth xs j).uses == 0) = false := by simpa using h0
    refine ⟨?_, by omega, ?_⟩
    · unfold dropB dropOk
      rw [hjj, hs, d1, d2, e0]; simp
    · unfold dropS
      split
      · rename_i hz
        exact storeB_set hs j _ hj (by rw [hz]; exact okB_none) (.inl (by simp))
      · rename_i hz
        have hok := storeB_ok hs j hj
        refine storeB_set hs j _ hj ?_ ?_
        · have hem := okB_empty hok
          rw [e0] at hem
          simp only [okB, Bool.and_eq_true, emptyB] at hok ⊢
          refine ⟨⟨hok.1.1, ?_⟩, ?_⟩
          · simp; omega
          · have e1 : (((nth xs j).uses - 1 : Int) == 0) = false := by simpa using hz
            rw [e1, ← hem]; rfl
        · cases he : (nth xs j).text.toList.isEmpty
          · right
            intro i hi hij
            cases hc : TextAt xs i (nth xs j).text
            · rfl
            · exact absurd (dup_unique hs (nth xs j).text he i j hi hj hc (by simp [TextAt])) hij
          · exact .inl rfl

/-- Either a put fails, or it is the put of a right store and a piece at some slot. -/
theorem put_ok_of (xs : List Sl) (t : ByteArray) : (putB xs t).2.2 = false ∨ ∃ j, PutOk xs t j ∧ goodB xs t = true ∧ storeB xs = true := by
  cases hg : goodB xs t
  · left; simp [putB, hg]
  · rcases put_cases xs t hg with ⟨j, hj, _⟩ | ⟨h, _⟩
    · exact .inr ⟨j, hj, rfl, ((goodB_iff xs t).1 hg).1⟩
    · left; rw [h]

theorem Bnd.setFits {lo : Int} {xs : List Sl} (h : Bnd lo xs) (j : Nat) (t : ByteArray) (u : Int) (hj : j < xs.length) (ht : t.size ≤ 20) : Fits (xs.set j ⟨t, u⟩) := by
  intro i hi
  rw [List.length_set] at hi
  rw [nth_set _ _ _ _ hj]
  have h1 := (h i hi).1
  unfold maxLen
  by_cases e : j = i
  · rw [if_pos e]; show t.size ≤ _; omega
  · rw [if_neg e]; omega

theorem NewSl.some8 {B : Nat} {w : World} {v : Value} {xs : List Sl} (h : NewSl B w v xs) (hl : xs.length = 8) : ∃ g cap, v = .slice (some ⟨g, 0, none⟩) 8 cap ∧ B ≤ g ∧ g < w.heap.size ∧ 8 ≤ cap ∧ SlotsW w g 0 xs := by
  rcases h with ⟨rfl, _⟩ | ⟨g, cap, hv, h1, h2, h3, h4⟩
  · simp at hl
  · rw [hl] at hv h3
    exact ⟨g, cap, hv, h1, h2, h3, h4⟩

theorem place_start (t : ByteArray) (h : tokB t.data.toList = true) : placeOf t.data.toList = ((startOf t : Nat) : Int) + 1 := by
  rw [placeOf_yes h]
  unfold startOf
  rw [Int.toNat_of_nonneg (Int.emod_nonneg _ (by omega))]

theorem next_spot (s k : Nat) : nextOf ((((s + k) % 8 : Nat) : Int) + 1) = (((s + (k + 1)) % 8 : Nat) : Int) + 1 := by
  unfold nextOf
  rw [if_pos (by omega)]
  omega

theorem below_drew {B : Nat} {w W : World} (h : Below B w W) : Below B w W.drew :=
  ⟨h.os, h.tape, h.output, h.size, h.block⟩

theorem below_drewN {B : Nat} {w W : World} (h : Below B w W) (n : Nat) : Below B w (W.drewN n) :=
  ⟨h.os, h.tape, h.output, h.size, h.block⟩

end Go.Proofs.Ytaoaclmcmeaedaa
