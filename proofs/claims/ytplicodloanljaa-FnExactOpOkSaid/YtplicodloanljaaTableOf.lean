/- What the program's tableOf and slotsOf answer: slots into a table and back. -/
import Derived.Test.YtplicodloanljaaTable
import Derived.Laws.IdiomCopy
import Derived.Deep.MidRow
namespace Go.Proofs.Ytplicodloanljaa
open Go.RowKit
set_option linter.unusedVariables false

theorem infoTab : (Try.prog.info? 79).map (·.size) = some 16 := by kernel_rfl

theorem infoTabS (xs : List Sl) (hn : xs.length = 8) : (Try.prog.info? 79).map (·.size) = some (flat xs).length := by
  rw [flat_length, hn]; exact infoTab

theorem slots_range {w : World} {g : Nat} {xs : List Sl} (h : Slots w g 0 xs) : w.rangeAt g 0 (flat xs) := fun j v hv => by
  have := h.flat j v hv
  rwa [add_lit] at this

theorem slotsW_there {w : World} {g : Nat} {ys : List Sl} (h : SlotsW w g 0 ys) (hl : ys.length = 8) : w.there g 0 16 := fun j hj => by
  have hj2 : j < (flat ys).length := by rw [flat_length]; omega
  have h1 := slots_range h.1 j _ (List.getElem?_eq_getElem hj2)
  exact ⟨by rw [h1]; rfl, h.2 _⟩

/-- A whole table is read. -/
theorem wpList_load_tab {ops : Array Oper} {rest : List Oper} {op : Oper} {a : Act} {w : World} {Q : Exit → Act → World → Prop} (hgd : op.guard = none) (x : Operand) (ho : op.op = .load 79 x)
    (g : Nat) (hx : a.eval x = .pointer (some ⟨g, 0, none⟩)) (xs : List Sl) (hs : Slots w g 0 xs) (hn : xs.length = 8)
    (h : wpList Try.prog ops Q rest (a.put op.dst (.agg (flat xs).toArray)) w) : wpList Try.prog ops Q (op :: rest) a w :=
  wpList_load_mid hgd _ x ho g 0 hx (flat xs) _ (slots_range hs) Try.underlying79 rfl (infoTabS xs hn) h

theorem tab_loadVar {w : World} {g : Nat} {xs : List Sl} (hs : Slots w g 0 xs) (hn : xs.length = 8) :
    (loadVar 79 ⟨g, 0, none⟩).run Try.prog w = .ok (.agg (flat xs).toArray) w :=
  run_loadVar_mid w g 0 _ (flat xs) _ (slots_range hs) Try.underlying79 rfl (infoTabS xs hn)

theorem grownBy_setCells (g : Nat) : ∀ (vs : List Value) (o : Nat) (w : World), w.grownBy (w.setCells g o vs) (some g)
  | [], _, w => grownBy_refl _ _
  | v :: r, o, w => grownBy_trans (grownBy_setCell w ⟨g, o, none⟩ v) (grownBy_setCells g r (o + 1) _)

theorem tab_set {w : World} {g : Nat} {ys : List Sl} (hy : SlotsW w g 0 ys) (hl : ys.length = 8) (xs : List Sl) (hn : xs.length = 8) : SlotsW (w.setCells g 0 (flat xs)) g 0 xs := by
  have hc : ∀ j, j < (flat xs).length → (w.cell? ⟨g, 0 + j, none⟩).isSome = true := fun j hj => (slotsW_there hy hl j (by rw [flat_length] at hj; omega)).1
  refine ⟨fun i hi => ?_, fun o => by rw [World.frozen?_setCells]; exact hy.2 o⟩
  have h1 : i * 2 < (flat xs).length := by rw [flat_length]; omega
  have h2 : i * 2 + 1 < (flat xs).length := by rw [flat_length]; omega
  constructor
  · have := World.cell?_setCells_in g (flat xs) 0 w hc (i * 2) h1
    rw [this, ← List.getElem?_eq_getElem h1, flat_text xs i hi]
  · have := World.cell?_setCells_in g (flat xs) 0 w hc (i * 2 + 1) h2
    rw [Nat.add_assoc, this, ← List.getElem?_eq_getElem h2, flat_uses xs i hi]

/-- A whole table is written. -/
theorem wpList_store_tab {ops : Array Oper} {rest : List Oper} {op : Oper} {a : Act} {w : World} {Q : Exit → Act → World → Prop} (hgd : op.guard = none) (x y : Operand) (ho : op.op = .store 79 x y)
    (g : Nat) (xs : List Sl) (hx : a.eval x = .pointer (some ⟨g, 0, none⟩)) (hy : a.eval y = .agg (flat xs).toArray) (hn : xs.length = 8) (ys : List Sl) (hs : SlotsW w g 0 ys) (hl : ys.length = 8)
    (h : ∀ w2, SlotsW w2 g 0 xs → w.grownBy w2 (some g) → wpList Try.prog ops Q rest (a.put op.dst undef) w2) : wpList Try.prog ops Q (op :: rest) a w := by
  refine wpList_store_mid hgd _ x y ho g 0 (flat xs).toArray hx hy ?_ ?_ (all_oneCell_toArray (flat_one xs)) ?_
  · rw [List.size_toArray, flat_length, hn]; exact slotsW_there hs hl
  · rw [List.size_toArray]; exact infoTabS xs hn
  · exact h _ (tab_set hs hl xs hn) (grownBy_setCells _ _ _ _)

theorem slotOk_bool (x : Sl) : okB x = (decide (0 ≤ x.uses) && decide (x.uses ≤ 99) && tokB x.text.data.toList && ((x.uses == 0) == x.text.toList.isEmpty)) := by
  unfold okB emptyB
  cases tokB x.text.data.toList <;> simp

end Go.Proofs.Ytplicodloanljaa
