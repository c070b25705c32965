/- What the program's table of slots answers: an array of pieces with their counts. What the program's tableOf and slotsOf answer: slots into a table and back. What the program's tableOf answers: a right store as a table. What the program's tableOf answers for whatever slices, and slotsOf: a table as a slice of slots. -/
import Derived.Test.YtaoaclmcmeaedaaSlotLaws
import Derived.RegionTactic
import Derived.ChangeAlike
import Derived.Laws.ResultCell
import Derived.Laws.IdiomCopy
import Derived.Deep.MidRow
namespace Go.Proofs.Ytaoaclmcmeaedaa
open Go.RowKit
set_option linter.unusedVariables false

/-- Slot i is in use and has the piece t. -/
def hitB (xs : List Sl) (t : ByteArray) (i : Nat) : Bool := decide (0 < (nth xs i).uses) && (nth xs i).text.toList == t.toList

/-- The first slot in use that has the piece t; 0: there is none. -/
def tfind (xs : List Sl) (t : ByteArray) : Int := match (List.range 8).find? (hitB xs t) with
  | some i => (i : Int) + 1
  | none => 0

theorem tfind_hit (xs : List Sl) (t : ByteArray) (k : Nat) (hk : k < 8) (h : hitB xs t k = true) (hno : ∀ j, j < k → hitB xs t j = false) : tfind xs t = (k : Int) + 1 := by
  have : (List.range 8).find? (hitB xs t) = some k := by
    rw [List.find?_range_eq_some]
    exact ⟨h, List.mem_range.2 hk, fun j hj => by simp [hno j hj]⟩
  simp only [tfind, this]

theorem tfind_none (xs : List Sl) (t : ByteArray) (hno : ∀ j, j < 8 → hitB xs t j = false) : tfind xs t = 0 := by
  have : (List.range 8).find? (hitB xs t) = none := by
    rw [List.find?_range_eq_none]
    exact fun j hj => by simp [hno j hj]
  simp only [tfind, this]

theorem drawn_drew {w : World} : Drawn w w.drew := ⟨1, rfl⟩

theorem Slots.at0 {w : World} {g : Nat} {xs : List Sl} (h : Slots w g 0 xs) (i : Nat) (hi : i < xs.length) :
    w.cell? ⟨g, i * 2, none⟩ = some (.string (nth xs i).text) ∧ w.cell? ⟨g, i * 2 + 1, none⟩ = some (.int .i64 (nth xs i).uses) := by
  have := h i hi
  rwa [Nat.zero_add] at this

end Go.Proofs.Ytaoaclmcmeaedaa

namespace Go.Proofs.Ytaoaclmcmeaedaa
open Go.RowKit
set_option linter.unusedVariables false

theorem infoTab : (Try.prog.info? 38).map (·.size) = some 16 := by kernel_rfl

theorem infoTabS (xs : List Sl) (hn : xs.length = 8) : (Try.prog.info? 38).map (·.size) = some (flat xs).length := by
  rw [flat_length, hn]; exact infoTab

theorem slots_range {w : World} {g : Nat} {xs : List Sl} (h : Slots w g 0 xs) : w.rangeAt g 0 (flat xs) := fun j v hv => by
  have := h.flat j v hv
  rwa [add_lit] at this

theorem slotsW_there {w : World} {g : Nat} {ys : List Sl} (h : SlotsW w g 0 ys) (hl : ys.length = 8) : w.there g 0 16 := fun j hj => by
  have hj2 : j < (flat ys).length := by rw [flat_length]; omega
  have h1 := slots_range h.1 j _ (List.getElem?_eq_getElem hj2)
  exact ⟨by rw [h1]; rfl, h.2 _⟩

/-- A whole table is read. -/
theorem wpList_load_tab {ops : Array Oper} {rest : List Oper} {op : Oper} {a : Act} {w : World} {Q : Exit → Act → World → Prop} (hgd : op.guard = none) (x : Operand) (ho : op.op = .load 38 x)
    (g : Nat) (hx : a.eval x = .pointer (some ⟨g, 0, none⟩)) (xs : List Sl) (hs : Slots w g 0 xs) (hn : xs.length = 8)
    (h : wpList Try.prog ops Q rest (a.put op.dst (.agg (flat xs).toArray)) w) : wpList Try.prog ops Q (op :: rest) a w :=
  wpList_load_mid hgd _ x ho g 0 hx (flat xs) _ (slots_range hs) Try.underlying38 rfl (infoTabS xs hn) h

theorem tab_loadVar {w : World} {g : Nat} {xs : List Sl} (hs : Slots w g 0 xs) (hn : xs.length = 8) :
    (loadVar 38 ⟨g, 0, none⟩).run Try.prog w = .ok (.agg (flat xs).toArray) w :=
  run_loadVar_mid w g 0 _ (flat xs) _ (slots_range hs) Try.underlying38 rfl (infoTabS xs hn)

theorem grownBy_setCells (g : Nat) : ∀ (vs : List Value) (o : Nat) (w : World), w.grownBy (w.setCells g o vs) (some g)
  | [], _, w => grownBy_refl _ _
  | v :: r, o, w => grownBy_trans (grownBy_setCell w ⟨g, o, none⟩ v) (grownBy_setCells g r (o + 1) _)

theorem tab_set {w : World} {g : Nat} {ys : List Sl} (hy : SlotsW w g 0 ys) (hl : ys.length = 8) (xs : List Sl) (hn : xs.length = 8) : SlotsW (w.setCells g 0 (flat xs)) g 0 xs := by
  have hc : ∀ j, j < (flat xs).length → (w.cell? ⟨g, 0 + j, none⟩).isSome = true := fun j hj => (slotsW_there hy hl j (by rw [flat_length] at hj; omega)).1
  refine ⟨fun i hi => ?_, fun o => by rw [World.frozen?_setCells]; exact hy.2 o⟩
  have h1 : i * 2 < (flat xs).length := by rw [flat_length]; omega
  have h2 : i * 2 + 1 < (flat xs).length := by rw [flat_length]; omega
  constructor
  · have := World.cell?_setCells_in g (flat xs) 0 w hc (i * 2) h1
    rw [this, ← List.getElem?_eq_getElem h1, flat_text xs i hi]
  · have := World.cell?_setCells_in g (flat xs) 0 w hc (i * 2 + 1) h2
    rw [Nat.add_assoc, this, ← List.getElem?_eq_getElem h2, flat_uses xs i hi]

/-- A whole table is written. -/
theorem wpList_store_tab {ops : Array Oper} {rest : List Oper} {op : Oper} {a : Act} {w : World} {Q : Exit → Act → World → Prop} (hgd : op.guard = none) (x y : Operand) (ho : op.op = .store 38 x y)
    (g : Nat) (xs : List Sl) (hx : a.eval x = .pointer (some ⟨g, 0, none⟩)) (hy : a.eval y = .agg (flat xs).toArray) (hn : xs.length = 8) (ys : List Sl) (hs : SlotsW w g 0 ys) (hl : ys.length = 8)
    (h : ∀ w2, SlotsW w2 g 0 xs → w.grownBy w2 (some g) → wpList Try.prog ops Q rest (a.put op.dst undef) w2) : wpList Try.prog ops Q (op :: rest) a w := by
  refine wpList_store_mid hgd _ x y ho g 0 (flat xs).toArray hx hy ?_ ?_ (all_oneCell_toArray (flat_one xs)) ?_
  · rw [List.size_toArray, flat_length, hn]; exact slotsW_there hs hl
  · rw [List.size_toArray]; exact infoTabS xs hn
  · exact h _ (tab_set hs hl xs hn) (grownBy_setCells _ _ _ _)

theorem slotOk_bool (x : Sl) : okB x = (decide (0 ≤ x.uses) && decide (x.uses ≤ 99) && tokB x.text.data.toList && ((x.uses == 0) == x.text.toList.isEmpty)) := by
  unfold okB emptyB
  cases tokB x.text.data.toList <;> simp

end Go.Proofs.Ytaoaclmcmeaedaa

namespace Go.Proofs.Ytaoaclmcmeaedaa
open Go.RowKit
set_option linter.unusedVariables false

/-- The table after k rounds. -/
def part (xs : List Sl) (k : Nat) : List Sl := xs.take k ++ List.replicate (8 - k) Sl.none

theorem part_len (xs : List Sl) (k : Nat) (hn : xs.length = 8) (hk : k ≤ 8) : (part xs k).length = 8 := by simp [part]; omega

theorem nth_part (xs : List Sl) (k i : Nat) (hn : xs.length = 8) (hk : k ≤ 8) : nth (part xs k) i = if i < k then nth xs i else Sl.none := by
  unfold nth part
  simp only [List.getD_eq_getElem?_getD]
  by_cases h : i < k
  · rw [if_pos h, List.getElem?_append_left (by simp; omega), List.getElem?_take_of_lt h]
  · rw [if_neg h, List.getElem?_append_right (by simp; omega)]
    by_cases h2 : i - (xs.take k).length < 8 - k
    · rw [List.getElem?_replicate, if_pos h2]; rfl
    · rw [List.getElem?_replicate, if_neg h2]; rfl

theorem part_zero (xs : List Sl) : part xs 0 = freshS := by simp [part, freshS]

theorem part_eight (xs : List Sl) (hn : xs.length = 8) : part xs 8 = xs := by simp [part, List.take_of_length_le (Nat.le_of_eq hn)]

theorem part_set (xs : List Sl) (k : Nat) (hn : xs.length = 8) (hk : k < 8) : (part xs k).set k (nth xs k) = part xs (k + 1) := by
  have l1 := part_len xs k hn (by omega)
  apply list_ext_nth
  · rw [List.length_set, l1, part_len xs (k + 1) hn (by omega)]
  · intro i hi
    rw [List.length_set, l1] at hi
    rw [nth_set _ _ _ _ (by omega), nth_part xs k i hn (by omega), nth_part xs (k + 1) i hn (by omega)]
    by_cases e : k = i
    · subst e; rw [if_pos rfl, if_pos (by omega)]
    · rw [if_neg e]
      by_cases h : i < k
      · rw [if_pos h, if_pos (by omega)]
      · rw [if_neg h, if_neg (by omega)]

/-- In a right slot the count is 0 just if the piece is empty. -/
theorem okB_use {x : Sl} (h : okB x = true) : decide (0 < x.uses) = !x.text.toList.isEmpty := by
  have h2 := okB_range h
  simp only [okB, Bool.and_eq_true, emptyB] at h
  have h3 := h.2
  cases he : x.text.toList.isEmpty
  · rw [he] at h3
    have : ¬ x.uses = 0 := by simpa using h3
    simp; omega
  · rw [he] at h3
    have : x.uses = 0 := by simpa using h3
    simp; omega

theorem hit_dup (x y : Sl) (h : okB y = true) : (decide (0 < y.uses) && y.text.toList == x.text.toList) = dupB x y := by
  unfold dupB emptyB
  rw [okB_use h]
  cases he : (y.text.toList == x.text.toList)
  · have : (x.text.toList == y.text.toList) = false := by
      cases h2 : (x.text.toList == y.text.toList)
      · rfl
      · have e1 : x.text.toList = y.text.toList := by simpa using h2
        rw [e1] at he; simp at he
    rw [this]; simp
  · have e1 : y.text.toList = x.text.toList := by simpa using he
    rw [e1]; simp

theorem row_ok {xs : List Sl} {k j : Nat} (h : (List.range k).all (rowB xs) = true) (hj : j < k) : okB (nth xs j) = true := by
  rw [List.all_eq_true] at h
  have := h j (List.mem_range.2 hj)
  simp only [rowB, Bool.and_eq_true] at this
  exact this.1

theorem hit_part (xs : List Sl) (k j : Nat) (hn : xs.length = 8) (hk : k ≤ 8) (h : (List.range k).all (rowB xs) = true) (x : Sl) :
    hitB (part xs k) x.text j = (decide (j < k) && dupB x (nth xs j)) := by
  unfold hitB
  rw [nth_part xs k j hn hk]
  by_cases hj : j < k
  · rw [if_pos hj, hit_dup _ _ (row_ok h hj)]; simp [hj]
  · rw [if_neg hj]; simp [hj, Sl.none]

theorem tfind_part_no (xs : List Sl) (k : Nat) (hn : xs.length = 8) (hk : k ≤ 8) (h : (List.range k).all (rowB xs) = true) (x : Sl)
    (hno : (List.range k).all (fun q => !dupB x (nth xs q)) = true) : tfind (part xs k) x.text = 0 := by
  refine tfind_none _ _ fun j _ => ?_
  rw [hit_part xs k j hn hk h]
  by_cases hj : j < k
  · rw [List.all_eq_true] at hno
    have := hno j (List.mem_range.2 hj)
    simp only [Bool.not_eq_true'] at this
    rw [this]; simp
  · simp [hj]

theorem tfind_pos (xs : List Sl) (t : ByteArray) (j : Nat) (hj : j < 8) (h : hitB xs t j = true) : tfind xs t ≠ 0 := by
  unfold tfind
  cases hf : (List.range 8).find? (hitB xs t) with
  | none =>
    rw [List.find?_range_eq_none] at hf
    have := hf j hj
    rw [h] at this; cases this
  | some i => simp only; omega

theorem tfind_part_yes (xs : List Sl) (k : Nat) (hn : xs.length = 8) (hk : k ≤ 8) (h : (List.range k).all (rowB xs) = true) (x : Sl)
    (hno : (List.range k).all (fun q => !dupB x (nth xs q)) = false) : tfind (part xs k) x.text ≠ 0 := by
  rw [List.all_eq_false] at hno
  obtain ⟨j, hj, hd⟩ := hno
  have hj := List.mem_range.1 hj
  refine tfind_pos _ _ j (by omega) ?_
  rw [hit_part xs k j hn hk h]
  have : dupB x (nth xs j) = true := by simpa using hd
  rw [this]; simp [hj]

theorem tfind_range (xs : List Sl) (t : ByteArray) : 0 ≤ tfind xs t ∧ tfind xs t ≤ 8 := by
  unfold tfind
  cases hf : (List.range 8).find? (hitB xs t) with
  | none => simp
  | some i =>
    rw [List.find?_range_eq_some] at hf
    have := List.mem_range.1 hf.2.1
    simp only; omega

theorem slotsW_alloc (w : World) (t : TypeId) (xs : List Sl) : SlotsW (w.alloc (.cells (flat xs).toArray t)) w.heap.size 0 xs := by
  have h := heap_alloc_new w (.cells (flat xs).toArray t)
  refine ⟨fun i hi => ?_, fun o => by unfold World.frozen?; rw [h]; simp⟩
  constructor
  · rw [cell_of_row _ _ _ _ _ _ h, List.getElem?_toArray, Nat.zero_add, flat_text xs i hi]
  · rw [cell_of_row _ _ _ _ _ _ h, List.getElem?_toArray, Nat.zero_add, flat_uses xs i hi]

theorem SlotsW.alloc {w : World} {g : Nat} {xs : List Sl} (h : SlotsW w g 0 xs) (hg : g < w.heap.size) (o : Obj) : SlotsW (w.alloc o) g 0 xs :=
  h.kept (World.grownBy_alloc w o none) hg (by simp)

theorem SlotsW.below {w w' : World} {g B : Nat} {xs : List Sl} (h : SlotsW w g 0 xs) (hb : Below B w w') (hg : g < B) : SlotsW w' g 0 xs :=
  ⟨h.1.below hb hg, fun o => (hb.frozen (p := ⟨g, o, none⟩) hg).trans (h.2 o)⟩

/-- What tableOf answers. -/
def TabOut (xs : List Sl) (w : World) (e : Ending) (w' : World) : Prop :=
  e = .returned (.tuple #[.agg (flat (if storeB xs = true then xs else freshS)).toArray, .bool (storeB xs)]) ∧ Below w.heap.size w w'

end Go.Proofs.Ytaoaclmcmeaedaa

namespace Go.Proofs.Ytaoaclmcmeaedaa
open Go.RowKit
set_option linter.unusedVariables false

theorem flat_extract (xs : List Sl) : ∀ k, k < xs.length → (flat xs).toArray.extract (k * 2) (k * 2 + 2) = #[.string (nth xs k).text, .int .i64 (nth xs k).uses] := by
  intro k hk
  apply Array.ext_getElem?
  intro i
  have h0 := flat_text xs k hk
  have h1 := flat_uses xs k hk
  rcases i with _ | _ | i
  · rw [Array.getElem?_extract_of_lt (by simp [flat_length]; omega)]
    simpa using (List.getElem?_eq_some_iff.1 h0).2
  · rw [Array.getElem?_extract_of_lt (by simp [flat_length]; omega)]
    simpa using (List.getElem?_eq_some_iff.1 h1).2
  · rw [Array.getElem?_eq_none (by simp [flat_length]; omega), Array.getElem?_eq_none (by simp)]

theorem aggItem : ∀ w : World, (isAgg 36).run Try.prog w = .ok true w := fun _ => by kernel_rfl

theorem sizeItem : ∀ w : World, (sizeOf 36).run Try.prog w = .ok 2 w := fun _ => by kernel_rfl

theorem run_index_tab (xs : List Sl) (k : Nat) (hn : xs.length = 8) (hk : k < 8) (w : World) :
    (Instr.index 38 (.agg (flat xs).toArray) (.int .i64 (k : Int))).run Try.prog w = .ok (.agg #[.string (nth xs k).text, .int .i64 (nth xs k).uses]) w := by
  have h2 : (0 : Int) ≤ (k : Int) ∧ (k : Int) < ((8 : Nat) : Int) := by omega
  unfold Instr.index Go.part
  simp only [asIntOf, Sem.run_bind, Sem.run_pure, Result.andThen_ok, run_underlying Try.underlying38, if_pos h2, sizeItem, aggItem, Int.toNat_natCast, if_true, flat_extract xs k (by omega)]

theorem storeB_not_len {xs : List Sl} (h : xs.length ≠ 8) : storeB xs = false := by simp [storeB, h]

set_option maxRecDepth 100000 in
set_option maxHeartbeats 800000 in
theorem slotsOf_any (xs : List Sl) (w : World) (hn : xs.length = 8) :
    Calls Try.prog 28 #[.agg (flat xs).toArray] w fun e w' => ∃ v, e = .returned v ∧ NewSl w.heap.size w' v xs ∧ Below w.heap.size w w' := by
  have hT := slotsW_alloc w 38 xs
  obtain ⟨w0, hw0⟩ : ∃ w0, w0 = w.alloc (.cells (flat xs).toArray 38) := ⟨_, rfl⟩
  rw [← hw0] at hT
  have hs0 : w.heap.size < w0.heap.size := by rw [hw0]; simp
  have hB0 : Below w.heap.size w w0 := by rw [hw0]; exact (Below.refl _ _).alloc (Nat.le_refl _) _
  obtain ⟨i0, hi, hz0, hz1, hz2⟩ := info_parts Try.infoSlot
  have hrun := run_make_full (P := Try.prog) w0 w0.heap.size 22 82 i0 (.agg #[.string ⟨#[]⟩, .int .i64 0]) 2 Try.underlying22 hi hz0 hz1 .i64 .i64 8 (by rw [hz2]; omega) (by unfold maxLen; omega) (Nat.le_refl _)
  obtain ⟨w2, hr, ho, hg⟩ := hrun
  rw [madeSlots 8] at ho
  obtain ⟨g', cap', hv, hb', hlt', hcap', hs'⟩ := slots_of_own ho (by omega) (by simp)
  simp only [Value.slice.injEq, Option.some.injEq, Addr.mk.injEq, and_true, true_and] at hv
  obtain ⟨rfl, rfl⟩ := hv
  have Hs := Lib.hid hs'
  have hB2 : Below w.heap.size w w2 := hB0.grown hg hB0.size (fun k e => by cases e)
  have HT := Lib.hid (hT.kept hg hs0 (by simp))
  have hr2 : Sem.run Try.prog (Instr.makeSlice 22 (.int .i64 8) (.int .i64 8)) w0 = .ok (.slice (some ⟨w0.heap.size, 0, none⟩) 8 8) w2 := hr
  clear hi hz0 hz1 hz2 ho hs' hg hT hr
  have Hn := Lib.hid hn
  have HI := Lib.hid (fun k hk W => run_index_tab xs k Hn.out hk W)
  clear hn
  subst hw0
  go_enter Try.func28, Try.ntmps28
  go_wp2_with (refine wpList_load_tab rfl _ rfl _ rfl xs HT.out.1 Hn.out ?_)
  go_loopw [8] (fun i wr => ∃ k : Nat, k ≤ 8 ∧ i = .int .i64 (k : Int) ∧ (∃ ys, SlotsW wr (w.heap.size + 1) 0 ys ∧ ys.length = 8 ∧ ∀ i, i < k → nth ys i = nth xs i) ∧ w.heap.size + 1 < wr.heap.size ∧ Below w.heap.size w wr) (fun i _ => 8 - (intOf i).toNat)
  case atStart =>
    refine ⟨0, by omega, rfl, ⟨List.replicate 8 Sl.none, ?_, List.length_replicate, fun i hi => absurd hi (Nat.not_lt_zero i)⟩, ?_, hB2⟩
    · have := Hs.out
      rwa [World.size_alloc] at this
    · rwa [World.size_alloc] at hlt'
  case round =>
    obtain ⟨k, hk, rfl, ⟨ys, hs, hl, hm⟩, hsz, hB⟩ := hrel
    clear hr2 hlt' hB2 hs0 hB0
    have HS := Lib.hid hs
    have HL := Lib.hid hl
    have HM := Lib.hid hm
    clear hs hl hm
    by_cases hlt : k < 8
    · have hidx := HI.out k hlt
      obtain ⟨hd, hv⟩ := HS.out.1.at0 k (by rw [HL.out]; exact hlt)
      have hf := HS.out.2 (k * 2)
      have hfu := HS.out.2 (k * 2 + 1)
      have H2 := HS.out.both k (by rw [HL.out]; exact hlt) (nth xs k).text (nth xs k).uses
      simp only [Nat.zero_add] at H2
      have H2 := Lib.hid H2
      go_wp2_with fail
      go_roundw
      case rel =>
        refine ⟨k + 1, by omega, by go_num, ⟨_, H2.out.alloc (by simpa [World.setCell] using hsz) _, by rw [List.length_set]; exact HL.out, fun i hi => ?_⟩, by simp [World.setCell]; omega, (((hB.setCell (by simp) _).setCell (by simp) _).alloc (by simpa [World.setCell] using hB.size) _)⟩
        rw [nth_set _ _ _ _ (by rw [HL.out]; exact hlt)]
        by_cases e : k = i
        · subst e; rw [if_pos rfl]
        · rw [if_neg e]; exact HM.out i (by omega)
      case measure => simp [intOf]; omega
    · obtain rfl : k = 8 := by omega
      have hxy : ys = xs := list_ext_nth ys xs (by rw [HL.out, Hn.out]) (fun i hi => HM.out i (by rw [HL.out] at hi; exact hi))
      have HX := Lib.hid hxy
      clear hxy
      go_wp2_with fail
      go_ret
      refine ⟨_, rfl, .inr ⟨w.heap.size + 1, 8, by rw [Hn.out]; rfl, by omega, hsz, by rw [Hn.out]; exact Nat.le_refl _, ?_⟩, hB⟩
      have := HS.out
      rwa [HX.out] at this

end Go.Proofs.Ytaoaclmcmeaedaa
