/- What the program's TextNext answers: a step out of an iterator over the slots. Plain facts on going round the slots. -/
import Derived.RangeFuncNested
import Derived.RangeFuncBound
import Derived.RangeFuncCalls
import Derived.RangeFuncLeaves
import Derived.Shelf.Abstract
import Derived.Shelf.RegionOpen
import Derived.WalkKit
import Derived.OwnWalkIn
import Derived.TacticsInMore
import Derived.LoopNIn
import Derived.LoopIn
import Derived.Test.YtaoaclmcmeaedaaPlace
namespace Go.Proofs.Ytaoaclmcmeaedaa
open Go.RowKit Go.Shelf
attribute [local go_sem] Oper.semAt_some

/-- The slot that comes k steps behind p. -/
def slotAt (p : Int) (k : Nat) : Int := (p - 1 + (k : Int)) % 8 + 1

/-- All slots, from p on. -/
def slotsFrom (p : Int) : List Int := if 1 ≤ p ∧ p ≤ 8 then (List.range 8).map (slotAt p) else []

def upto (p : Int) (k : Nat) : List Int := (List.range k).map (slotAt p)

theorem upto_succ (p : Int) (k : Nat) : upto p (k + 1) = upto p k ++ [slotAt p k] := by
  simp [upto, List.range_succ]

theorem upto_len (p : Int) (k : Nat) : (upto p k).length = k := by simp [upto]

theorem upto_eight (p : Int) (h : 1 ≤ p ∧ p ≤ 8) : upto p 8 = slotsFrom p := by simp [upto, slotsFrom, h]

theorem upto_pre (p : Int) (k : Nat) (h : 1 ≤ p ∧ p ≤ 8) (hk : k ≤ 8) : upto p k <+: slotsFrom p := by
  rw [← upto_eight p h]
  refine ⟨((List.range 8).drop k).map (slotAt p), ?_⟩
  have : List.range k = (List.range 8).take k := by rw [List.take_range]; congr 1; omega
  rw [upto, this, ← List.map_append, List.take_append_drop]; rfl

theorem slots_no (p : Int) (hp : p < 1 ∨ 8 < p) : slotsFrom p = [] := by
  unfold slotsFrom; rw [if_neg (by omega)]

theorem cell_of_box_l {W : World} {B : Nat} {v : Value} {t : TypeId} (h : W.heap[B]? = some (.cells #[v] t (0, 0))) : W.cell? ⟨B, 0, none⟩ = some v ∧ W.frozen? ⟨B, 0, none⟩ = false := by
  constructor <;> simp [World.cell?, World.frozen?, h]

theorem cell_new_l (W : World) (v : Value) (t : TypeId) : (W.alloc (.cells #[v] t)).cell? ⟨W.heap.size, 0, none⟩ = some v ∧ (W.alloc (.cells #[v] t)).frozen? ⟨W.heap.size, 0, none⟩ = false :=
  cell_of_box_l (World.alloc_heap_new W _)

theorem cell_alloc_l {W : World} {a : Addr} {v : Value} (o : Obj) (h : W.cell? a = some v) : (W.alloc o).cell? a = some v := cell_kept h (World.grownBy_alloc W o none) (fun r e => by cases e)

theorem frozen_alloc_l {W : World} {a : Addr} {v : Value} (o : Obj) (h : W.cell? a = some v) (hf : W.frozen? a = false) : (W.alloc o).frozen? a = false := (frozen_kept h (World.grownBy_alloc W o none) (fun r e => by cases e)).trans hf

theorem slots_cons (p : Int) (hp : 1 ≤ p ∧ p ≤ 8) : ∃ rest, slotsFrom p = p :: nextOf p :: rest := by
  refine ⟨((List.range 8).drop 2).map (slotAt p), ?_⟩
  unfold slotsFrom
  rw [if_pos hp, show List.range 8 = 0 :: 1 :: (List.range 8).drop 2 from rfl]
  simp only [List.map_cons, List.cons.injEq]
  refine ⟨by unfold slotAt; omega, ?_, rfl⟩
  unfold nextOf
  rw [if_pos hp]; unfold slotAt; omega

theorem next_ne (p : Int) (hp : 1 ≤ p ∧ p ≤ 8) : nextOf p ≠ p := by
  unfold nextOf; rw [if_pos hp]; omega

/-- All came, and each was p: there was none. -/
theorem all_same (p : Int) (h : ∀ y ∈ slotsFrom p, y = p) : nextOf p = 0 := by
  by_cases hp : 1 ≤ p ∧ p ≤ 8
  · obtain ⟨rest, hr⟩ := slots_cons p hp
    rw [hr] at h
    exact absurd (h _ (by simp)) (next_ne p hp)
  · unfold nextOf; rw [if_neg hp]

/-- The first that is not p. -/
theorem first_other (p v : Int) (q : List Int) (hpre : q ++ [v] <+: slotsFrom p) (hq : ∀ y ∈ q, y = p) (hv : v ≠ p) : v = nextOf p := by
  by_cases hp : 1 ≤ p ∧ p ≤ 8
  · obtain ⟨rest, hr⟩ := slots_cons p hp
    rw [hr] at hpre
    match q, hpre, hq with
    | [], hpre, hq =>
      have := (List.cons_prefix_cons.1 hpre).1
      exact absurd this hv
    | [a], hpre, hq =>
      have h1 := (List.cons_prefix_cons.1 hpre).2
      exact (List.cons_prefix_cons.1 h1).1
    | a :: b :: q', hpre, hq =>
      have h1 := (List.cons_prefix_cons.1 hpre).2
      have h2 := (List.cons_prefix_cons.1 h1).1
      exact absurd (h2.symm.trans (hq b (by simp))) (next_ne p hp)
  · rw [slots_no p (by omega)] at hpre
    have := hpre.length_le
    simp at this

end Go.Proofs.Ytaoaclmcmeaedaa

namespace Go.Proofs.Ytaoaclmcmeaedaa

theorem next_at (p : Int) (k : Nat) : nextOf (slotAt p k) = slotAt p (k + 1) := by
  unfold nextOf slotAt
  rw [if_pos (by omega)]
  push_cast
  omega

theorem slotAt_zero (p : Int) (h : 1 ≤ p ∧ p ≤ 8) : slotAt p 0 = p := by unfold slotAt; omega

theorem slotAt_eight (p : Int) (h : 1 ≤ p ∧ p ≤ 8) : slotAt p 8 = p := by unfold slotAt; omega

theorem slotAt_range (p : Int) (k : Nat) : 1 ≤ slotAt p k ∧ slotAt p k ≤ 8 := by unfold slotAt; omega

/-- The sum of the slots met in the first k steps. -/
def roundSum (p : Int) : Nat → Int
  | 0 => 0
  | k + 1 => roundSum p k + slotAt p (k + 1)

theorem roundSum_bound (p : Int) (k : Nat) : 0 ≤ roundSum p k ∧ roundSum p k ≤ 8 * k := by
  induction k with
  | zero => simp [roundSum]
  | succ k ih => have := slotAt_range p (k + 1); simp only [roundSum]; push_cast; omega

theorem roundSum_eight (p : Int) (h : 1 ≤ p ∧ p ≤ 8) : roundSum p 8 = 36 := by
  obtain rfl | rfl | rfl | rfl | rfl | rfl | rfl | rfl : p = 1 ∨ p = 2 ∨ p = 3 ∨ p = 4 ∨ p = 5 ∨ p = 6 ∨ p = 7 ∨ p = 8 := by omega
  all_goals decide

theorem placeOf_range (l : List UInt8) (h : tokB l = true) : 1 ≤ placeOf l ∧ placeOf l ≤ 8 := by
  rw [placeOf_yes h]; omega

/-- One letter more: the place goes on by its value times its position. -/
theorem placeOf_more (s t : ByteArray) (c : UInt8) (ht : t.data.toList = [c]) (m : Nat) (h : tokB s.data.toList = true) (hl : s.size < 4) (hc : letB c = true)
    (hm : (m : Int) = ((s.size : Int) + 1) * ((c.toNat : Int) - 96)) : placeOf (s ++ t).data.toList = slotAt (placeOf s.data.toList) m := by
  have e : (s ++ t).data.toList = s.data.toList ++ [c] := by rw [ByteArray.data_append]; simp [ht]
  have hlen : s.data.toList.length = s.size := by simp
  have h2 : tokB (s.data.toList ++ [c]) = true := by
    have := tokB_let h
    simp only [tokB, List.all_append, this, List.all_cons, hc, List.all_nil, List.length_append, hlen]
    simp; omega
  rw [e, placeOf_yes h2, placeOf_yes h, ws_snoc, hlen]
  unfold slotAt
  rw [hm]
  simp only [Int.natCast_zero, Int.zero_add]
  omega

end Go.Proofs.Ytaoaclmcmeaedaa
