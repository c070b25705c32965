/- Plain mathematics on stores: a slot dropped again and again. -/
import Derived.Test.YtgajhknljnhfmaaStoreMath2
namespace Go.Proofs.Ytgajhknljnhfmaa
open Go.RowKit

/-- The store behind i drops of slot j. -/
def dropN (xs : List Sl) (j : Nat) (i : Nat) : List Sl :=
  xs.set j (if (nth xs j).uses - (i : Int) = 0 then ⟨⟨#[]⟩, 0⟩ else ⟨(nth xs j).text, (nth xs j).uses - (i : Int)⟩)

theorem dropN_len (xs : List Sl) (j i : Nat) : (dropN xs j i).length = xs.length := by unfold dropN; rw [List.length_set]

theorem dropN_at (xs : List Sl) (j i : Nat) (hj : j < xs.length) : nth (dropN xs j i) j = if (nth xs j).uses - (i : Int) = 0 then ⟨⟨#[]⟩, 0⟩ else ⟨(nth xs j).text, (nth xs j).uses - (i : Int)⟩ := by
  unfold dropN
  rw [nth_set _ _ _ _ hj, if_pos rfl]

theorem dropN_zero (xs : List Sl) (j : Nat) (hj : j < xs.length) (hu : 0 < (nth xs j).uses) : dropN xs j 0 = xs := by
  unfold dropN
  rw [if_neg (by simp; omega)]
  have e : (⟨(nth xs j).text, (nth xs j).uses - ((0 : Nat) : Int)⟩ : Sl) = xs[j] := by
    rw [← nth_get xs j hj]
    simp
  rw [e, List.set_getElem_self]

theorem dropN_next (xs : List Sl) (j i : Nat) (hj : j < xs.length) (hi : (i : Int) < (nth xs j).uses) : dropS (dropN xs j i) j = dropN xs j (i + 1) := by
  have hne : ¬ ((nth xs j).uses - (i : Int) = 0) := by omega
  unfold dropS
  rw [dropN_at xs j i hj, if_neg hne]
  unfold dropN
  rw [List.set_set]
  congr 1
  by_cases h : (nth xs j).uses - (i : Int) - 1 = 0
  · rw [if_pos h, if_pos (by push_cast; omega), h]
  · rw [if_neg h, if_neg (by push_cast; omega)]
    congr 1
    push_cast
    omega

theorem dropN_ok {xs : List Sl} (hs : storeB xs = true) (j : Nat) (hj : j < 8) : ∀ i : Nat, (i : Int) ≤ (nth xs j).uses → 0 < (nth xs j).uses → storeB (dropN xs j i) = true
  | 0, _, hu => by rw [dropN_zero xs j (by rw [storeB_len hs]; exact hj) hu]; exact hs
  | i + 1, hi, hu => by
    have h1 := dropN_ok hs j hj i (by omega) hu
    have hl := storeB_len hs
    obtain ⟨j', hj', hp, hc⟩ := drop_cases (dropN xs j i) ((j : Int) + 1) h1 (by omega) (by omega)
    obtain rfl : j' = j := by omega
    rw [dropN_next xs j' i (by omega) (by omega)] at hc
    have hne : ¬ ((nth xs j').uses - (i : Int) = 0) := by omega
    rw [dropN_at xs j' i (by omega), if_neg hne] at hc
    rcases hc with ⟨_, h0⟩ | ⟨_, _, h⟩
    · simp only at h0; omega
    · exact h

theorem dropN_step {xs : List Sl} (hs : storeB xs = true) (j : Nat) (hj : j < 8) (i : Nat) (hi : (i : Int) < (nth xs j).uses) : dropB (dropN xs j i) ((j : Int) + 1) = (dropN xs j (i + 1), true) := by
  have hl := storeB_len hs
  obtain ⟨j', hj', hp, hc⟩ := drop_cases (dropN xs j i) ((j : Int) + 1) (dropN_ok hs j hj i (by omega) (by omega)) (by omega) (by omega)
  obtain rfl : j' = j := by omega
  rw [dropN_next xs j' i (by omega) (by omega)] at hc
  have hne : ¬ ((nth xs j').uses - (i : Int) = 0) := by omega
  rw [dropN_at xs j' i (by omega), if_neg hne] at hc
  rcases hc with ⟨_, h0⟩ | ⟨h, _, _⟩
  · simp only at h0; omega
  · exact h

theorem dropN_none {xs : List Sl} (hs : storeB xs = true) (j : Nat) (hj : j < 8) (i : Nat) (hi : (i : Int) = (nth xs j).uses) : dropB (dropN xs j i) ((j : Int) + 1) = ([], false) := by
  have hl := storeB_len hs
  have ej : ((j : Int) + 1 - 1).toNat = j := by omega
  have hz : (nth xs j).uses - (i : Int) = 0 := by omega
  have hd : dropOk (dropN xs j i) ((j : Int) + 1) = false := by
    unfold dropOk
    rw [ej, dropN_at xs j i (by omega), if_pos hz]
    simp
  unfold dropB
  rw [hd]
  simp

theorem dropN_fits {xs : List Sl} (h : Fits xs) (j i : Nat) (hj : j < xs.length) : Fits (dropN xs j i) := by
  intro q hq
  rw [dropN_len] at hq
  unfold dropN
  rw [nth_set _ _ _ _ hj]
  have h1 := h q hq
  have h2 := h j hj
  split
  · split
    · exact Nat.zero_le _
    · exact h2
  · exact h1

theorem set_fits {xs : List Sl} (h : Fits xs) (j : Nat) (x : Sl) (hj : j < xs.length) (hx : x.text.size ≤ maxLen) : Fits (xs.set j x) := by
  intro q hq
  rw [List.length_set] at hq
  rw [nth_set _ _ _ _ hj]
  split
  · exact hx
  · exact h q hq

theorem nil_fits : Fits [] := fun i hi => by simp at hi

theorem putB_fits {xs : List Sl} (h : Fits xs) (t : ByteArray) (ht : t.size ≤ maxLen) : Fits (putB xs t).1 := by
  cases hg : goodB xs t
  · have : putB xs t = ([], 0, false) := by simp [putB, hg]
    rw [this]; exact nil_fits
  · have hl := storeB_len ((goodB_iff xs t).1 hg).1
    rcases put_cases xs t hg with ⟨j, hp, _⟩ | ⟨hp, _⟩
    · rw [hp.eq]
      exact set_fits h j _ (by have := hp.lt; omega) ht
    · rw [hp]; exact h

theorem dropB_fits {xs : List Sl} (h : Fits xs) (p : Int) : Fits (dropB xs p).1 := by
  unfold dropB
  split
  · rename_i hd
    have hs : storeB xs = true := by
      unfold dropOk at hd
      simp only [Bool.and_eq_true] at hd
      exact hd.1.1
    have hr : 1 ≤ p ∧ p ≤ 8 := by
      unfold dropOk at hd
      simp only [Bool.and_eq_true, decide_eq_true_eq] at hd
      exact hd.1.2
    have hl := storeB_len hs
    have hj : (p - 1).toNat < xs.length := by omega
    have h2 := h _ hj
    unfold dropS
    refine set_fits h _ _ hj ?_
    split
    · exact Nat.zero_le _
    · exact h2
  · exact nil_fits

theorem findB_true {xs : List Sl} {t : ByteArray} (h : (findB xs t).2 = true) : ∃ j : Nat, j < 8 ∧ findB xs t = ((j : Int) + 1, true) ∧ TextAt xs j t = true ∧ goodB xs t = true := by
  cases hg : goodB xs t
  · simp [findB, hg] at h
  · rw [findB_good hg] at h
    cases hf : (findS xs t).2
    · rw [hf] at h; simp at h
    · obtain ⟨j, hj, e, hx⟩ := findS_true xs t hf
      refine ⟨j, hj, ?_, hx, rfl⟩
      rw [findB_good hg, hf, if_pos rfl, e]

theorem put_keeps {xs : List Sl} {t : ByteArray} {j : Nat} (hj : j < 8) (hx : TextAt xs j t = true) (hg : goodB xs t = true) (t2 : ByteArray) (h : (putB xs t2).2.2 = true) : findB (putB xs t2).1 t = ((j : Int) + 1, true) := by
  obtain ⟨hs, htk, he⟩ := (goodB_iff xs t).1 hg
  have hl := storeB_len hs
  rcases put_ok_of xs t2 with hno | ⟨m, hp, hg2, _⟩
  · rw [hno] at h; cases h
  · rw [hp.eq]
    have hm := hp.lt
    refine findB_hit hp.ok ((goodB_iff _ _).2 ⟨hp.ok, htk, he⟩) he j hj ?_
    unfold TextAt
    rw [nth_set _ _ _ _ (by omega)]
    by_cases e : m = j
    · rw [if_pos e]
      subst e
      rcases hp.was with ⟨hx2, _⟩ | ⟨h0, _⟩
      · have e1 := ba_ext _ _ hx
        have e2 := ba_ext _ _ hx2
        rw [← e1, ← e2]
        simp
      · have := okB_empty (storeB_ok hs m hj)
        rw [h0, ba_ext _ _ hx, he] at this
        simp at this
    · rw [if_neg e]; exact hx

theorem drop_keeps {xs : List Sl} {t : ByteArray} {j : Nat} (hj : j < 8) (hx : TextAt xs j t = true) (hg : goodB xs t = true) (p : Int) (h1 : 1 ≤ p) (h8 : p ≤ 8) (hne : p ≠ (j : Int) + 1) (h : (dropB xs p).2 = true) : findB (dropB xs p).1 t = ((j : Int) + 1, true) := by
  obtain ⟨hs, htk, he⟩ := (goodB_iff xs t).1 hg
  have hl := storeB_len hs
  obtain ⟨m, hm, hpm, hc⟩ := drop_cases xs p hs h1 h8
  rcases hc with ⟨hd, _⟩ | ⟨hd, _, hso⟩
  · rw [hd] at h; cases h
  · rw [hd]
    refine findB_hit hso ((goodB_iff _ _).2 ⟨hso, htk, he⟩) he j hj ?_
    unfold TextAt dropS
    rw [nth_set _ _ _ _ (by omega), if_neg (by omega)]
    exact hx

theorem free_none (xs : List Sl) (h : ∀ j, j < 8 → (nth xs j).uses ≠ 0) : ∀ k, k ≤ 8 → freeTo xs k = 0 := by
  intro k
  induction k with
  | zero => intro _; rfl
  | succ k ih =>
    intro hk
    have e : ((nth xs k).uses == 0) = false := by simpa using h k (by omega)
    simp [freeTo, ih (by omega), e]

theorem put_two {ys : List Sl} {t t2 : ByteArray} {j m : Nat} (hj : j < 8) (hx : TextAt ys j t = true) (hg : goodB ys t = true) (hg2 : goodB ys t2 = true) (hp : PutOk ys t2 m) :
    findB (ys.set m ⟨t2, (nth ys m).uses + 1⟩) t = ((j : Int) + 1, true) ∧ ((j : Int) + 1 == (m : Int) + 1) = (t.toList == t2.toList) := by
  have hl := storeB_len ((goodB_iff ys t).1 hg).1
  have fk := put_keeps hj hx hg t2 (by rw [hp.eq])
  rw [hp.eq] at fk
  simp only at fk
  refine ⟨fk, ?_⟩
  have fm := hp.find hg2
  cases h : (t.toList == t2.toList)
  · obtain ⟨j', hj', e, hx', _⟩ := findB_true (xs := ys.set m ⟨t2, (nth ys m).uses + 1⟩) (t := t) (by rw [fk])
    have ej := fk.symm.trans e
    simp only [Prod.mk.injEq, and_true] at ej
    obtain rfl : j = j' := by omega
    have hne : j ≠ m := by
      intro e2
      subst e2
      have e3 := ba_ext _ _ hx'
      have e4 := ba_ext _ _ (hp.text hl)
      rw [e3.symm.trans e4] at h
      simp at h
    simp; omega
  · have e := ba_ext _ _ h
    subst e
    have e2 := fk.symm.trans fm
    simp only [Prod.mk.injEq, and_true] at e2
    simpa using e2

theorem below_alloc (w : World) (o : Obj) : Below w.heap.size w (w.alloc o) :=
  (Below.refl _ _).grown (World.grownBy_alloc w o none) (Nat.le_refl _) (fun k e => by cases e)

end Go.Proofs.Ytgajhknljnhfmaa
