/- What the model's functions on slots answer. What the model's functions that change slots answer, and leave. What the model's StorePut, StoreDrop, StoreFree and StoreNew answer. -/
import Derived.Test.YtaoaclmcmeaedaaPlace
import Derived.Deep.QuietTactic
import Derived.BigQuiet
import Derived.Deep.RegionHeld
import Derived.Test.YtaoaclmcmeaedaaDraw
import Derived.OwnWalk
import Derived.Laws.OwnMore
namespace Go.Proofs.Ytaoaclmcmeaedaa
open Go.RowKit

/-- The cells from (g, off) on hold the slots xs. -/
def Slots (w : World) (g off : Nat) (xs : List Sl) : Prop :=
  ∀ i, i < xs.length → w.cell? ⟨g, off + i * 2, none⟩ = some (.string (nth xs i).text) ∧ w.cell? ⟨g, off + i * 2 + 1, none⟩ = some (.int .i64 (nth xs i).uses)

/-- The slice that begins at a holds the slots xs. -/
def Sls (w : World) (a : Option Addr) (xs : List Sl) : Prop := xs = [] ∨ ∃ g off, a = some ⟨g, off, none⟩ ∧ Slots w g off xs

/-- Some draws have been made, and nothing else. -/
def Drawn (w w' : World) : Prop := ∃ m, w' = w.drewN m

theorem Drawn.refl (w : World) : Drawn w w := ⟨0, rfl⟩

theorem Drawn.more {w a : World} (h : Drawn w a) (n : Nat) : Drawn w (a.drewN n) := by
  obtain ⟨m, rfl⟩ := h
  exact ⟨m + n, by rw [World.drewN_drewN]⟩

theorem Drawn.trans {a b c : World} (h : Drawn a b) (k : Drawn b c) : Drawn a c := by
  obtain ⟨m, rfl⟩ := k
  exact h.more m

theorem Drawn.cell {w a : World} (h : Drawn w a) (p : Addr) : a.cell? p = w.cell? p := by obtain ⟨m, rfl⟩ := h; rfl

theorem Drawn.frozen {w a : World} (h : Drawn w a) (p : Addr) : a.frozen? p = w.frozen? p := by obtain ⟨m, rfl⟩ := h; rfl

theorem Drawn.heap {w a : World} (h : Drawn w a) : a.heap = w.heap := by obtain ⟨m, rfl⟩ := h; rfl

theorem ret_pair {k : IntKind} {a b : Int} {c d : Bool} (h : (a, c) = (b, d)) : Ending.returned (.tuple #[.int k a, .bool c]) = .returned (.tuple #[.int k b, .bool d]) := by
  injection h with h1 h2
  rw [h1, h2]

end Go.Proofs.Ytaoaclmcmeaedaa

namespace Go.Proofs.Ytaoaclmcmeaedaa
open Go.RowKit

/-- The cells from (g, off) on hold the slots xs, and all of block g may be written. -/
def SlotsW (w : World) (g off : Nat) (xs : List Sl) : Prop := Slots w g off xs ∧ ∀ o, w.frozen? ⟨g, o, none⟩ = false

theorem nth_set (xs : List Sl) (i j : Nat) (x : Sl) (h : i < xs.length) : nth (xs.set i x) j = if i = j then x else nth xs j := by
  unfold nth
  rw [List.getD_eq_getElem?_getD, List.getD_eq_getElem?_getD, List.getElem?_set]
  by_cases e : i = j
  · subst e; simp [h]
  · simp [e]

theorem grownBy_setCell (w : World) (p : Addr) (v : Value) : w.grownBy (w.setCell p v) (some p.block) := by
  refine ⟨rfl, rfl, rfl, by simp [World.setCell], fun k hk hn => ?_⟩
  exact Below.heap_setCell w p v k (fun e => hn (by rw [e]))

theorem cell_same (w : World) (p : Addr) (u v : Value) (h : w.cell? p = some u) : (w.setCell p v).cell? p = some v :=
  World.cell?_setCell_same' _ _ _ (by rw [h]; rfl)

theorem ne_off (g a b : Nat) (h : a ≠ b) : (⟨g, a, none⟩ : Addr) ≠ ⟨g, b, none⟩ := by
  intro e; exact h (by injection e)

/-- The text of a slot is written. -/
theorem SlotsW.text {w : World} {g off : Nat} {xs : List Sl} (h : SlotsW w g off xs) (i : Nat) (hi : i < xs.length) (t : ByteArray) :
    SlotsW (w.setCell ⟨g, off + i * 2, none⟩ (.string t)) g off (xs.set i ⟨t, (nth xs i).uses⟩) := by
  refine ⟨fun j hj => ?_, fun o => by rw [World.frozen?_setCell]; exact h.2 o⟩
  rw [List.length_set] at hj
  rw [nth_set _ _ _ _ hi]
  have h1 := h.1 j hj
  by_cases e : i = j
  · subst e
    rw [if_pos rfl]
    exact ⟨cell_same _ _ _ _ h1.1, (cell_other _ _ _ _ (ne_off _ _ _ (by omega))).trans h1.2⟩
  · rw [if_neg e]
    exact ⟨(cell_other _ _ _ _ (ne_off _ _ _ (by omega))).trans h1.1, (cell_other _ _ _ _ (ne_off _ _ _ (by omega))).trans h1.2⟩

/-- The count of a slot is written. -/
theorem SlotsW.uses {w : World} {g off : Nat} {xs : List Sl} (h : SlotsW w g off xs) (i : Nat) (hi : i < xs.length) (u : Int) :
    SlotsW (w.setCell ⟨g, off + i * 2 + 1, none⟩ (.int .i64 u)) g off (xs.set i ⟨(nth xs i).text, u⟩) := by
  refine ⟨fun j hj => ?_, fun o => by rw [World.frozen?_setCell]; exact h.2 o⟩
  rw [List.length_set] at hj
  rw [nth_set _ _ _ _ hi]
  have h1 := h.1 j hj
  by_cases e : i = j
  · subst e
    rw [if_pos rfl]
    exact ⟨(cell_other _ _ _ _ (ne_off _ _ _ (by omega))).trans h1.1, cell_same _ _ _ _ h1.2⟩
  · rw [if_neg e]
    exact ⟨(cell_other _ _ _ _ (ne_off _ _ _ (by omega))).trans h1.1, (cell_other _ _ _ _ (ne_off _ _ _ (by omega))).trans h1.2⟩

theorem SlotsW.both {w : World} {g off : Nat} {xs : List Sl} (h : SlotsW w g off xs) (i : Nat) (hi : i < xs.length) (t : ByteArray) (u : Int) :
    SlotsW ((w.setCell ⟨g, off + i * 2, none⟩ (.string t)).setCell ⟨g, off + i * 2 + 1, none⟩ (.int .i64 u)) g off (xs.set i ⟨t, u⟩) := by
  have h2 := (h.text i hi t).uses i (by rw [List.length_set]; exact hi) u
  rw [List.set_set, nth_set _ _ _ _ hi, if_pos rfl] at h2
  exact h2

theorem ret_three {k : IntKind} {v v' : Value} {a b : Int} {c d : Bool} (hv : v = v') (h1 : a = b) (h2 : c = d) : Ending.returned (.tuple #[v, .int k a, .bool c]) = .returned (.tuple #[v', .int k b, .bool d]) := by
  rw [hv, h1, h2]

theorem SlotsW.kept {w w' : World} {g off : Nat} {xs : List Sl} (h : SlotsW w g off xs) {r : Option Nat} (hg : w.grownBy w' r) (hl : g < w.heap.size) (hn : some g ≠ r) : SlotsW w' g off xs :=
  ⟨fun i hi => ⟨(World.cell?_of_block (w := w) (a := ⟨g, off + i * 2, none⟩) (hg.block g hl hn)).trans (h.1 i hi).1, (World.cell?_of_block (w := w) (a := ⟨g, off + i * 2 + 1, none⟩) (hg.block g hl hn)).trans (h.1 i hi).2⟩,
    fun o => (World.frozen?_of_block (w := w) (a := ⟨g, o, none⟩) (hg.block g hl hn)).trans (h.2 o)⟩

theorem Slots.below {w w' : World} {B g off : Nat} {xs : List Sl} (h : Slots w g off xs) (hb : Below B w w') (hg : g < B) : Slots w' g off xs :=
  fun i hi => ⟨(hb.cell (p := ⟨g, off + i * 2, none⟩) hg).trans (h i hi).1, (hb.cell (p := ⟨g, off + i * 2 + 1, none⟩) hg).trans (h i hi).2⟩

theorem Slots.drawn {w w' : World} {g off : Nat} {xs : List Sl} (h : Slots w g off xs) (hd : Drawn w w') : Slots w' g off xs :=
  fun i hi => ⟨(hd.cell _).trans (h i hi).1, (hd.cell _).trans (h i hi).2⟩

theorem SlotsW.drawn {w w' : World} {g off : Nat} {xs : List Sl} (h : SlotsW w g off xs) (hd : Drawn w w') : SlotsW w' g off xs :=
  ⟨h.1.drawn hd, fun o => (hd.frozen _).trans (h.2 o)⟩

theorem Drawn.below {w w' : World} (h : Drawn w w') (B : Nat) : Below B w w' := by
  obtain ⟨m, rfl⟩ := h
  exact ⟨rfl, rfl, rfl, Nat.le_refl _, fun _ _ => rfl⟩

theorem Drawn.grown {w w' : World} (h : Drawn w w') (r : Option Nat) : w.grownBy w' r := by
  obtain ⟨m, rfl⟩ := h
  exact ⟨rfl, rfl, rfl, Nat.le_refl _, fun _ _ _ => rfl⟩

theorem Slots.lt {w : World} {g off : Nat} {xs : List Sl} (h : Slots w g off xs) (hn : 0 < xs.length) : g < w.heap.size :=
  World.block_lt_of_cell? w ⟨g, off + 0 * 2, none⟩ (h 0 hn).1

/-- The cells of slots, one behind the other. -/
def flat : List Sl → List Value
  | [] => []
  | x :: r => .string x.text :: .int .i64 x.uses :: flat r

theorem flat_length (xs : List Sl) : (flat xs).length = xs.length * 2 := by
  induction xs with
  | nil => rfl
  | cons x r ih => simp only [flat, List.length_cons, ih]; omega

theorem nth_zero (x : Sl) (r : List Sl) : nth (x :: r) 0 = x := rfl

theorem nth_succ (x : Sl) (r : List Sl) (i : Nat) : nth (x :: r) (i + 1) = nth r i := by simp [nth]

theorem flat_text (xs : List Sl) : ∀ i, i < xs.length → (flat xs)[i * 2]? = some (.string (nth xs i).text) := by
  induction xs with
  | nil => intro i hi; simp at hi
  | cons x r ih =>
    intro i hi
    cases i with
    | zero => rfl
    | succ i =>
      rw [show (i + 1) * 2 = i * 2 + 1 + 1 from by omega, nth_succ]
      simp only [flat, List.getElem?_cons_succ]
      exact ih i (by simpa using hi)

theorem flat_uses (xs : List Sl) : ∀ i, i < xs.length → (flat xs)[i * 2 + 1]? = some (.int .i64 (nth xs i).uses) := by
  induction xs with
  | nil => intro i hi; simp at hi
  | cons x r ih =>
    intro i hi
    cases i with
    | zero => rfl
    | succ i =>
      rw [show (i + 1) * 2 + 1 = i * 2 + 1 + 1 + 1 from by omega, nth_succ]
      simp only [flat, List.getElem?_cons_succ]
      exact ih i (by simpa using hi)

theorem flat_one (xs : List Sl) : ∀ u ∈ flat xs, u.oneCell' = true := by
  induction xs with
  | nil => intro u hu; simp [flat] at hu
  | cons x r ih =>
    intro u hu
    simp only [flat, List.mem_cons] at hu
    rcases hu with rfl | rfl | hu
    · rfl
    · rfl
    · exact ih u hu

theorem add_lit (g off j : Nat) : (⟨g, off, none⟩ : Addr).add j = ⟨g, off + j, none⟩ := by
  unfold Addr.add; split <;> simp_all

theorem Slots.flat {w : World} {g off : Nat} {xs : List Sl} (h : Slots w g off xs) : ∀ j u, (flat xs)[j]? = some u → w.cell? ((⟨g, off, none⟩ : Addr).add j) = some u := by
  intro j u hj
  have hl : j < xs.length * 2 := by rw [← flat_length]; exact (List.getElem?_eq_some_iff.1 hj).1
  rw [add_lit]
  by_cases e : j % 2 = 0
  · rw [show j = (j / 2) * 2 from by omega] at hj ⊢
    rw [flat_text xs _ (by omega)] at hj
    rw [(h (j / 2) (by omega)).1, hj]
  · rw [show j = (j / 2) * 2 + 1 from by omega] at hj ⊢
    rw [flat_uses xs _ (by omega)] at hj
    rw [← Nat.add_assoc, (h (j / 2) (by omega)).2, hj]

/-- A row of the call's own that holds the cells of slots. -/
theorem slots_of_own {w : World} {base : Nat} {e : TypeId} {v : Value} {n : Nat} {xs : List Sl} (h : w.ownsRow base e 2 v n (flat xs)) (hn : 0 < n) (hl : xs.length = n) :
    ∃ g cap, v = .slice (some ⟨g, 0, none⟩) n cap ∧ base ≤ g ∧ g < w.heap.size ∧ n ≤ cap ∧ SlotsW w g 0 xs := by
  rcases h.2 with ⟨_, h'⟩ | ⟨g, cap, cur, rfl, hb, hcells, hcap, _⟩
  · omega
  have hlt : g < w.heap.size := (Array.getElem?_eq_some_iff.1 hcells).1
  refine ⟨g, cap, rfl, hb, hlt, hcap, fun i hi => ⟨?_, ?_⟩, fun o => h.frozenAt o⟩
  · rw [Nat.zero_add, h.cellAt _ (by omega), flat_text xs i hi]
  · rw [Nat.zero_add, h.cellAt _ (by omega), flat_uses xs i hi]

theorem Try.infoSlot : (Try.prog.info? 82).map (fun i => (i.zero, i.size, i.bytes)) = some (some (.agg #[.string ⟨#[]⟩, .int .i64 0]), 2, 24) := by kernel_rfl

/-- A call of the model's StoreFind, StorePut is about a right store and a piece that is not empty. -/
def goodB (xs : List Sl) (t : ByteArray) : Bool := storeB xs && tokB t.data.toList && !t.toList.isEmpty

def findB (xs : List Sl) (t : ByteArray) : Int × Bool := if goodB xs t = true ∧ (findS xs t).2 = true then findS xs t else (0, false)

theorem storeB_nil : storeB [] = false := by decide

theorem storeB_len {xs : List Sl} (h : storeB xs = true) : xs.length = 8 := by
  simp only [storeB, Bool.and_eq_true, decide_eq_true_eq] at h; exact h.2

theorem storeB_row {xs : List Sl} (h : storeB xs = true) (i : Nat) (hi : i < 8) : rowB xs i = true := by
  have hl := storeB_len h
  simp only [storeB, Bool.and_eq_true] at h
  have := h.1
  rw [List.all_eq_true] at this
  exact this i (List.mem_range.2 (by omega))

theorem storeB_ok {xs : List Sl} (h : storeB xs = true) (i : Nat) (hi : i < 8) : okB (nth xs i) = true := by
  have := storeB_row h i hi
  simp only [rowB, Bool.and_eq_true] at this
  exact this.1

theorem okB_range {x : Sl} (h : okB x = true) : 0 ≤ x.uses ∧ x.uses ≤ 99 := by
  simp only [okB, Bool.and_eq_true, decide_eq_true_eq] at h
  exact h.1.2

theorem Sls.drawn {w w' : World} {a : Option Addr} {xs : List Sl} (h : Sls w a xs) (hd : Drawn w w') : Sls w' a xs := by
  rcases h with h | ⟨g, off, e, hx⟩
  · exact .inl h
  · exact .inr ⟨g, off, e, hx.drawn hd⟩

end Go.Proofs.Ytaoaclmcmeaedaa

namespace Go.Proofs.Ytaoaclmcmeaedaa
open Go.RowKit

/-- A slice of slots that a call has made: from block B on, to be written. -/
def NewSl (B : Nat) (w : World) (v : Value) (xs : List Sl) : Prop :=
  (xs = [] ∧ ∃ a c, v = .slice a 0 c) ∨ ∃ g cap, v = .slice (some ⟨g, 0, none⟩) xs.length cap ∧ B ≤ g ∧ g < w.heap.size ∧ xs.length ≤ cap ∧ SlotsW w g 0 xs

def putB (xs : List Sl) (t : ByteArray) : List Sl × Int × Bool := if goodB xs t = true then putS xs t else ([], 0, false)

def dropOk (xs : List Sl) (place : Int) : Bool := storeB xs && (decide (1 ≤ place) && decide (place ≤ 8)) && !((nth xs (place - 1).toNat).uses == 0)

def dropB (xs : List Sl) (place : Int) : List Sl × Bool := if dropOk xs place = true then (dropS xs (place - 1).toNat, true) else ([], false)

theorem putS_len (xs : List Sl) (t : ByteArray) : (putS xs t).1.length = xs.length := by
  unfold putS; split <;> simp

theorem dropS_len (xs : List Sl) (j : Nat) : (dropS xs j).length = xs.length := by
  unfold dropS; simp

theorem storeB_uses {xs : List Sl} (h : storeB xs = true) (i : Nat) (hi : i < 8) : 0 ≤ (nth xs i).uses ∧ (nth xs i).uses ≤ 1000 := by
  have := okB_range (storeB_ok h i hi); omega

theorem empty_slice (a : Option Addr) (c : Nat) (B : Nat) (w : World) : NewSl B w (.slice a 0 c) [] := .inl ⟨rfl, a, c, rfl⟩

theorem Sls.some_of {w : World} {a : Option Addr} {xs : List Sl} (hx : Sls w a xs) (h1 : storeB xs = true) : ∃ g off, a = some ⟨g, off, none⟩ ∧ Slots w g off xs := by
  rcases hx with rfl | h
  · rw [storeB_nil] at h1; cases h1
  · exact h

/-- How many of the first k slots are free. -/
def freeTo (xs : List Sl) : Nat → Int
  | 0 => 0
  | k + 1 => freeTo xs k + if ((nth xs k).uses == 0) = true then 1 else 0

def freeB (xs : List Sl) : Int := if storeB xs = true then freeTo xs 8 else -1

theorem freeTo_bound (xs : List Sl) (k : Nat) : 0 ≤ freeTo xs k ∧ freeTo xs k ≤ k := by
  induction k with
  | zero => simp [freeTo]
  | succ k ih => simp only [freeTo]; split <;> omega

def freshS : List Sl := List.replicate 8 Sl.none

set_option maxHeartbeats 800000 in
theorem storeNewS_any (w : World) :
    Calls Try.prog 17 #[] w fun e w' => e = .returned (.slice (some ⟨w.heap.size, 0, none⟩) 8 8) ∧ w.heap.size < w'.heap.size ∧ SlotsW w' w.heap.size 0 freshS ∧ Below w.heap.size w w' := by
  obtain ⟨i0, hi, hz0, hz1, hz2⟩ := info_parts Try.infoSlot
  have hrun := run_make_full (P := Try.prog) w w.heap.size 22 82 i0 (.agg #[.string ⟨#[]⟩, .int .i64 0]) 2 Try.underlying22 hi hz0 hz1 .i64 .i64 8 (by rw [hz2]; omega) (by unfold maxLen; omega) (Nat.le_refl _)
  obtain ⟨w2, hr, ho, hg⟩ := hrun
  have Ho := Lib.hid ho
  have Hg := Lib.hid hg
  have hr2 : Sem.run Try.prog (Instr.makeSlice 22 (.int .i64 8) (.int .i64 8)) w = .ok (.slice (some ⟨w.heap.size, 0, none⟩) 8 8) w2 := hr
  clear ho hg hi hz0 hz1 hz2 hr
  go_enter Try.func17, Try.ntmps17
  go_wp2_with fail
  go_ret
  have hf : (madeCells (Value.agg #[.string ⟨#[]⟩, .int .i64 0]).cells (8 * 2)).toList = flat freshS := by kernel_rfl
  have ho := Ho.out
  rw [hf] at ho
  obtain ⟨g, cap, hv, hb, hlt, hcap, hs⟩ := slots_of_own ho (by omega) rfl
  simp only [Value.slice.injEq, Option.some.injEq, Addr.mk.injEq, and_true, true_and] at hv
  obtain ⟨rfl, _⟩ := hv
  exact ⟨rfl, hlt, hs, (Below.refl _ _).grown Hg.out (Nat.le_refl _) (fun k e => by cases e)⟩

end Go.Proofs.Ytaoaclmcmeaedaa
