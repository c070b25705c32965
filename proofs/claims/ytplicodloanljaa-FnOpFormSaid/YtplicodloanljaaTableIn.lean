/- What the program's tableOf answers: a right store as a table. -/
import Derived.Test.YtplicodloanljaaTableOf
namespace Go.Proofs.Ytplicodloanljaa
open Go.RowKit
set_option linter.unusedVariables false

/-- The table after k rounds. -/
def part (xs : List Sl) (k : Nat) : List Sl := xs.take k ++ List.replicate (8 - k) Sl.none

theorem part_len (xs : List Sl) (k : Nat) (hn : xs.length = 8) (hk : k ≤ 8) : (part xs k).length = 8 := by simp [part]; omega

theorem nth_part (xs : List Sl) (k i : Nat) (hn : xs.length = 8) (hk : k ≤ 8) : nth (part xs k) i = if i < k then nth xs i else Sl.none := by
  unfold nth part
  simp only [List.getD_eq_getElem?_getD]
  by_cases h : i < k
  · rw [if_pos h, List.getElem?_append_left (by simp; omega), List.getElem?_take_of_lt h]
  · rw [if_neg h, List.getElem?_append_right (by simp; omega)]
    by_cases h2 : i - (xs.take k).length < 8 - k
    · rw [List.getElem?_replicate, if_pos h2]; rfl
    · rw [List.getElem?_replicate, if_neg h2]; rfl

theorem part_zero (xs : List Sl) : part xs 0 = freshS := by simp [part, freshS]

theorem part_eight (xs : List Sl) (hn : xs.length = 8) : part xs 8 = xs := by simp [part, List.take_of_length_le (Nat.le_of_eq hn)]

theorem part_set (xs : List Sl) (k : Nat) (hn : xs.length = 8) (hk : k < 8) : (part xs k).set k (nth xs k) = part xs (k + 1) := by
  have l1 := part_len xs k hn (by omega)
  apply list_ext_nth
  · rw [List.length_set, l1, part_len xs (k + 1) hn (by omega)]
  · intro i hi
    rw [List.length_set, l1] at hi
    rw [nth_set _ _ _ _ (by omega), nth_part xs k i hn (by omega), nth_part xs (k + 1) i hn (by omega)]
    by_cases e : k = i
    · subst e; rw [if_pos rfl, if_pos (by omega)]
    · rw [if_neg e]
      by_cases h : i < k
      · rw [if_pos h, if_pos (by omega)]
      · rw [if_neg h, if_neg (by omega)]

/-- In a right slot the count is 0 just if the piece is empty. -/
theorem okB_use {x : Sl} (h : okB x = true) : decide (0 < x.uses) = !x.text.toList.isEmpty := by
  have h2 := okB_range h
  simp only [okB, Bool.and_eq_true, emptyB] at h
  have h3 := h.2
  cases he : x.text.toList.isEmpty
  · rw [he] at h3
    have : ¬ x.uses = 0 := by simpa using h3
    simp; omega
  · rw [he] at h3
    have : x.uses = 0 := by simpa using h3
    simp; omega

theorem hit_dup (x y : Sl) (h : okB y = true) : (decide (0 < y.uses) && y.text.toList == x.text.toList) = dupB x y := by
  unfold dupB emptyB
  rw [okB_use h]
  cases he : (y.text.toList == x.text.toList)
  · have : (x.text.toList == y.text.toList) = false := by
      cases h2 : (x.text.toList == y.text.toList)
      · rfl
      · have e1 : x.text.toList = y.text.toList := by simpa using h2
        rw [e1] at he; simp at he
    rw [this]; simp
  · have e1 : y.text.toList = x.text.toList := by simpa using he
    rw [e1]; simp

theorem row_ok {xs : List Sl} {k j : Nat} (h : (List.range k).all (rowB xs) = true) (hj : j < k) : okB (nth xs j) = true := by
  rw [List.all_eq_true] at h
  have := h j (List.mem_range.2 hj)
  simp only [rowB, Bool.and_eq_true] at this
  exact this.1

theorem hit_part (xs : List Sl) (k j : Nat) (hn : xs.length = 8) (hk : k ≤ 8) (h : (List.range k).all (rowB xs) = true) (x : Sl) :
    hitB (part xs k) x.text j = (decide (j < k) && dupB x (nth xs j)) := by
  unfold hitB
  rw [nth_part xs k j hn hk]
  by_cases hj : j < k
  · rw [if_pos hj, hit_dup _ _ (row_ok h hj)]; simp [hj]
  · rw [if_neg hj]; simp [hj, Sl.none]

theorem tfind_part_no (xs : List Sl) (k : Nat) (hn : xs.length = 8) (hk : k ≤ 8) (h : (List.range k).all (rowB xs) = true) (x : Sl)
    (hno : (List.range k).all (fun q => !dupB x (nth xs q)) = true) : tfind (part xs k) x.text = 0 := by
  refine tfind_none _ _ fun j _ => ?_
  rw [hit_part xs k j hn hk h]
  by_cases hj : j < k
  · rw [List.all_eq_true] at hno
    have := hno j (List.mem_range.2 hj)
    simp only [Bool.not_eq_true'] at this
    rw [this]; simp
  · simp [hj]

theorem tfind_pos (xs : List Sl) (t : ByteArray) (j : Nat) (hj : j < 8) (h : hitB xs t j = true) : tfind xs t ≠ 0 := by
  unfold tfind
  cases hf : (List.range 8).find? (hitB xs t) with
  | none =>
    rw [List.find?_range_eq_none] at hf
    have := hf j hj
    rw [h] at this; cases this
  | some i => simp only; omega

theorem tfind_part_yes (xs : List Sl) (k : Nat) (hn : xs.length = 8) (hk : k ≤ 8) (h : (List.range k).all (rowB xs) = true) (x : Sl)
    (hno : (List.range k).all (fun q => !dupB x (nth xs q)) = false) : tfind (part xs k) x.text ≠ 0 := by
  rw [List.all_eq_false] at hno
  obtain ⟨j, hj, hd⟩ := hno
  have hj := List.mem_range.1 hj
  refine tfind_pos _ _ j (by omega) ?_
  rw [hit_part xs k j hn hk h]
  have : dupB x (nth xs j) = true := by simpa using hd
  rw [this]; simp [hj]

theorem tfind_range (xs : List Sl) (t : ByteArray) : 0 ≤ tfind xs t ∧ tfind xs t ≤ 8 := by
  unfold tfind
  cases hf : (List.range 8).find? (hitB xs t) with
  | none => simp
  | some i =>
    rw [List.find?_range_eq_some] at hf
    have := List.mem_range.1 hf.2.1
    simp only; omega

theorem slotsW_alloc (w : World) (t : TypeId) (xs : List Sl) : SlotsW (w.alloc (.cells (flat xs).toArray t)) w.heap.size 0 xs := by
  have h := heap_alloc_new w (.cells (flat xs).toArray t)
  refine ⟨fun i hi => ?_, fun o => by unfold World.frozen?; rw [h]; simp⟩
  constructor
  · rw [cell_of_row _ _ _ _ _ _ h, List.getElem?_toArray, Nat.zero_add, flat_text xs i hi]
  · rw [cell_of_row _ _ _ _ _ _ h, List.getElem?_toArray, Nat.zero_add, flat_uses xs i hi]

theorem SlotsW.alloc {w : World} {g : Nat} {xs : List Sl} (h : SlotsW w g 0 xs) (hg : g < w.heap.size) (o : Obj) : SlotsW (w.alloc o) g 0 xs :=
  h.kept (World.grownBy_alloc w o none) hg (by simp)

theorem SlotsW.below {w w' : World} {g B : Nat} {xs : List Sl} (h : SlotsW w g 0 xs) (hb : Below B w w') (hg : g < B) : SlotsW w' g 0 xs :=
  ⟨h.1.below hb hg, fun o => (hb.frozen (p := ⟨g, o, none⟩) hg).trans (h.2 o)⟩

/-- What tableOf answers. -/
def TabOut (xs : List Sl) (w : World) (e : Ending) (w' : World) : Prop :=
  e = .returned (.tuple #[.agg (flat (if storeB xs = true then xs else freshS)).toArray, .bool (storeB xs)]) ∧ Below w.heap.size w w'

end Go.Proofs.Ytplicodloanljaa
