/- What the program's TextNext answers: a step out of an iterator over the slots. -/
import Derived.RangeFuncNested
import Derived.RangeFuncBound
import Derived.RangeFuncCalls
import Derived.RangeFuncLeaves
import Derived.Shelf.Abstract
import Derived.Shelf.RegionOpen
import Derived.WalkKit
import Derived.OwnWalkIn
import Derived.TacticsInMore
import Derived.LoopNIn
import Derived.LoopIn
import Derived.Test.YtgajhknljnhfmaaPlace
namespace Go.Proofs.Ytgajhknljnhfmaa
open Go.RowKit Go.Shelf
attribute [local go_sem] Oper.semAt_some

/-- The slot that comes k steps behind p. -/
def slotAt (p : Int) (k : Nat) : Int := (p - 1 + (k : Int)) % 8 + 1

/-- All slots, from p on. -/
def slotsFrom (p : Int) : List Int := if 1 ≤ p ∧ p ≤ 8 then (List.range 8).map (slotAt p) else []

def upto (p : Int) (k : Nat) : List Int := (List.range k).map (slotAt p)

theorem upto_succ (p : Int) (k : Nat) : upto p (k + 1) = upto p k ++ [slotAt p k] := by
  simp [upto, List.range_succ]

theorem upto_len (p : Int) (k : Nat) : (upto p k).length = k := by simp [upto]

theorem upto_eight (p : Int) (h : 1 ≤ p ∧ p ≤ 8) : upto p 8 = slotsFrom p := by simp [upto, slotsFrom, h]

theorem upto_pre (p : Int) (k : Nat) (h : 1 ≤ p ∧ p ≤ 8) (hk : k ≤ 8) : upto p k <+: slotsFrom p := by
  rw [← upto_eight p h]
  refine ⟨((List.range 8).drop k).map (slotAt p), ?_⟩
  have : List.range k = (List.range 8).take k := by rw [List.take_range]; congr 1; omega
  rw [upto, this, ← List.map_append, List.take_append_drop]; rfl

set_option maxHeartbeats 1000000 in
theorem placeOk_in (F : Fence) (n : Nat) (hf : F.fn 77) (hro : F.round = none) (p : Int) (w : World) :
    CallsIn F n Try.prog 77 #[.int .i64 p] w fun e w' => e = .returned (.bool (decide (1 ≤ p) && decide (p ≤ 8))) ∧ w' = w := by
  refine callsIn_of_wp Try.func77 rfl hf ?_ hro
  simp only [Try.ntmps77, List.size_toArray, List.length_cons, List.length_nil, Nat.reduceAdd, Nat.reduceSub, Array.replicate_succ, Array.replicate_zero, List.push_toArray, List.append_toArray, List.nil_append, List.cons_append]
  by_cases h1 : 1 ≤ p
  · have d1 : decide (1 ≤ p) = true := by simpa using h1
    by_cases h2 : p ≤ 8
    · have d2 : decide (p ≤ 8) = true := by simpa using h2
      gi_wp2
      go_ret
      exact ⟨by first | rfl | (rw [d1, d2]; rfl), rfl⟩
    · have d2 : decide (p ≤ 8) = false := by simpa using h2
      gi_wp2
      go_ret
      exact ⟨by first | rfl | (rw [d1, d2]; rfl), rfl⟩
  · have d1 : decide (1 ≤ p) = false := by simpa using h1
    gi_wp2
    go_ret
    exact ⟨by first | rfl | (rw [d1]; rfl), rfl⟩

set_option maxRecDepth 100000 in
set_option maxHeartbeats 1000000 in
theorem probe1_in (F : Fence) (n : Nat) (hf : F.fn 90) (hpo : F.fn 77) (hro : F.round = none) (hn : 1 ≤ n) (l Bn n₀ : Nat) (p : Int) (hp : 1 ≤ p ∧ p ≤ 8) (hBn0 : Bn < n₀) (J Jx : List Int → World → Prop)
    (hY : ∀ pre x W, J pre W → pre.length < (slotsFrom p).length → YieldAt F (n - 1) Try.prog l #[.int .i64 x] W fun e W' =>
      (e = .returned (.bool true) ∧ J (pre ++ [x]) W' ∧ Below n₀ W W') ∨ (e = .returned (.bool false) ∧ Jx (pre ++ [x]) W'))
    (W : World) (hBn : W.cell? ⟨Bn, 0, none⟩ = some (.int .i64 p)) (h0 : J [] W) :
    CallsIn F n Try.prog 90 #[.func (.yield l) #[] #[], .pointer (some ⟨Bn, 0, none⟩)] W fun e W' => (∃ v, e = .returned v) ∧
      ((∃ ys, ys = slotsFrom p ∧ J ys W') ∨ (∃ pre, pre <+: slotsFrom p ∧ Jx pre W')) := by
  have hlen8 : (slotsFrom p).length = 8 := by rw [← upto_eight p hp, upto_len]
  have H8 := Lib.hid hlen8
  clear hlen8
  have HY := Lib.hid hY
  clear hY
  obtain ⟨hp1, hp2⟩ := hp
  refine callsIn_of_wp Try.func90 rfl hf ?_ hro
  simp only [Try.ntmps90, List.size_toArray, List.length_cons, List.length_nil, Nat.reduceAdd, Nat.reduceSub, Array.replicate_succ, Array.replicate_zero, List.push_toArray, List.append_toArray, List.nil_append, List.cons_append]
  have HPK : Hid ((decide (1 ≤ p) && decide (p ≤ 8)) = true) := Lib.hid (by simp [hp1, hp2])
  gi_wp2_with (gi_at_call 77; refine (placeOk_in F (n - 1) hpo hro _ _).mono ?_; rw [HPK.out]; rintro e w' ⟨rfl, rfl⟩)
  gi_loopw [7] (fun i wr => ∃ k : Nat, k ≤ 8 ∧ i = .int .i64 k ∧ J (upto p k) wr ∧ wr.cell? ⟨Bn, 0, none⟩ = some (.int .i64 p)) (fun i wr => 8 - (intOf i).toNat)
  case atStart => exact ⟨0, by omega, rfl, h0, hBn⟩
  case round =>
    obtain ⟨k, hk, rfl, hJk, hcell⟩ := hrel
    by_cases hlt : k < 8
    · obtain ⟨fn, tmps, assign, body, hy, hR⟩ := HY.out (upto p k) ((p - 1 + (k : Int)) % 8 + 1) wr hJk (by rw [H8.out, upto_len]; exact hlt)
      have HR := Lib.hid hR
      clear hR
      gi_wp2
      refine HR.out.mono ?_
      rintro e W3 (⟨rfl, hJ3, hk3⟩ | ⟨rfl, hJx3⟩)
      · have hc3 : W3.cell? ⟨Bn, 0, none⟩ = some (.int .i64 p) := (hk3.cell (p := ⟨Bn, 0, none⟩) hBn0).trans hcell
        gi_wp2
        go_roundw
        case rel => exact ⟨k + 1, by omega, by go_num, by rw [upto_succ]; exact hJ3, hc3⟩
        case measure => simp [intOf]; omega
      · gi_wp2
        refine bodyPost_ret (results_none rfl _ _ _) rfl ?_
        exact ⟨⟨_, rfl⟩, .inr ⟨upto p k ++ [slotAt p k], by rw [← upto_succ]; exact upto_pre p (k + 1) ⟨hp1, hp2⟩ (by omega), hJx3⟩⟩
    · obtain rfl : k = 8 := by omega
      gi_wp2
      go_end0
      exact ⟨⟨_, rfl⟩, .inl ⟨upto p 8, upto_eight p ⟨hp1, hp2⟩, hJk⟩⟩

set_option maxRecDepth 100000 in
set_option maxHeartbeats 1000000 in
theorem probe1_none (F : Fence) (n : Nat) (hf : F.fn 90) (hpo : F.fn 77) (hro : F.round = none) (hn : 1 ≤ n) (l Bn : Nat) (p : Int) (hp : p < 1 ∨ 8 < p) (J : List Int → World → Prop)
    (W : World) (hBn : W.cell? ⟨Bn, 0, none⟩ = some (.int .i64 p)) (h0 : J [] W) :
    CallsIn F n Try.prog 90 #[.func (.yield l) #[] #[], .pointer (some ⟨Bn, 0, none⟩)] W fun e W' => (∃ v, e = .returned v) ∧ J [] W' := by
  refine callsIn_of_wp Try.func90 rfl hf ?_ hro
  simp only [Try.ntmps90, List.size_toArray, List.length_cons, List.length_nil, Nat.reduceAdd, Nat.reduceSub, Array.replicate_succ, Array.replicate_zero, List.push_toArray, List.append_toArray, List.nil_append, List.cons_append]
  have HPK : Hid ((decide (1 ≤ p) && decide (p ≤ 8)) = false) := Lib.hid (by rcases hp with hp | hp <;> simp <;> omega)
  gi_wp2_with (gi_at_call 77; refine (placeOk_in F (n - 1) hpo hro _ _).mono ?_; rw [HPK.out]; rintro e w' ⟨rfl, rfl⟩)
  refine bodyPost_ret (results_none rfl _ _ _) rfl ?_
  exact ⟨⟨_, rfl⟩, h0⟩

theorem slots_no (p : Int) (hp : p < 1 ∨ 8 < p) : slotsFrom p = [] := by
  unfold slotsFrom; rw [if_neg (by omega)]

theorem probe_stops (F : Fence) (n : Nat) (hf : F.fn 90) (hpo : F.fn 77) (hro : F.round = none) (hn : 1 ≤ n) (Bn n₀ : Nat) (p : Int) (w : World) (hBn : Bn < n₀) (hn₀ : n₀ ≤ w.heap.size)
    (hc : w.cell? ⟨Bn, 0, none⟩ = some (.int .i64 p)) :
    SeqStopsK F n Try.prog 90 #[.pointer (some ⟨Bn, 0, none⟩)] (fun x : Int => #[Value.int .i64 x]) (Below n₀) (fun ys => ys = slotsFrom p) (fun pre => pre <+: slotsFrom p) (slotsFrom p).length w := fun l J Jx W hW _ _ hY h0 => by
  have hc' := (hW.cell (p := ⟨Bn, 0, none⟩) (by show Bn < w.heap.size; omega)).trans hc
  by_cases hp : 1 ≤ p ∧ p ≤ 8
  · exact probe1_in F n hf hpo hro hn l Bn n₀ p hp hBn J Jx hY W hc' h0
  · refine (probe1_none F n hf hpo hro hn l Bn p (by omega) J W hc' h0).mono ?_
    rintro e W' ⟨he, hJ⟩
    exact ⟨he, .inl ⟨[], (slots_no p (by omega)).symm, hJ⟩⟩

set_option maxHeartbeats 1000000 in
theorem probe_in (F : Fence) (n : Nat) (hf : F.fn 59) (hro : F.round = none) (p : Int) (w : World) :
    CallsIn F n Try.prog 59 #[.int .i64 p] w fun e w' => e = .returned (.func (.func 90) #[] #[.pointer (some ⟨w.heap.size, 0, none⟩)]) ∧ w' = w.alloc (.cells #[.int .i64 p] 3) := by
  refine callsIn_of_wp Try.func59 rfl hf ?_ hro
  simp only [Try.ntmps59, List.size_toArray, List.length_cons, List.length_nil, Nat.reduceAdd, Nat.reduceSub, Array.replicate_succ, Array.replicate_zero, List.push_toArray, List.append_toArray, List.nil_append, List.cons_append]
  gi_wp2
  go_ret
  exact ⟨rfl, rfl⟩

theorem cell_of_box_l {W : World} {B : Nat} {v : Value} {t : TypeId} (h : W.heap[B]? = some (.cells #[v] t (0, 0))) : W.cell? ⟨B, 0, none⟩ = some v ∧ W.frozen? ⟨B, 0, none⟩ = false := by
  constructor <;> simp [World.cell?, World.frozen?, h]

theorem cell_new_l (W : World) (v : Value) (t : TypeId) : (W.alloc (.cells #[v] t)).cell? ⟨W.heap.size, 0, none⟩ = some v ∧ (W.alloc (.cells #[v] t)).frozen? ⟨W.heap.size, 0, none⟩ = false :=
  cell_of_box_l (World.alloc_heap_new W _)

theorem cell_alloc_l {W : World} {a : Addr} {v : Value} (o : Obj) (h : W.cell? a = some v) : (W.alloc o).cell? a = some v := cell_kept h (World.grownBy_alloc W o none) (fun r e => by cases e)

theorem frozen_alloc_l {W : World} {a : Addr} {v : Value} (o : Obj) (h : W.cell? a = some v) (hf : W.frozen? a = false) : (W.alloc o).frozen? a = false := (frozen_kept h (World.grownBy_alloc W o none) (fun r e => by cases e)).trans hf

theorem slots_cons (p : Int) (hp : 1 ≤ p ∧ p ≤ 8) : ∃ rest, slotsFrom p = p :: nextOf p :: rest := by
  refine ⟨((List.range 8).drop 2).map (slotAt p), ?_⟩
  unfold slotsFrom
  rw [if_pos hp, show List.range 8 = 0 :: 1 :: (List.range 8).drop 2 from rfl]
  simp only [List.map_cons, List.cons.injEq]
  refine ⟨by unfold slotAt; omega, ?_, rfl⟩
  unfold nextOf
  rw [if_pos hp]; unfold slotAt; omega

theorem next_ne (p : Int) (hp : 1 ≤ p ∧ p ≤ 8) : nextOf p ≠ p := by
  unfold nextOf; rw [if_pos hp]; omega

/-- All came, and each was p: there was none. -/
theorem all_same (p : Int) (h : ∀ y ∈ slotsFrom p, y = p) : nextOf p = 0 := by
  by_cases hp : 1 ≤ p ∧ p ≤ 8
  · obtain ⟨rest, hr⟩ := slots_cons p hp
    rw [hr] at h
    exact absurd (h _ (by simp)) (next_ne p hp)
  · unfold nextOf; rw [if_neg hp]

/-- The first that is not p. -/
theorem first_other (p v : Int) (q : List Int) (hpre : q ++ [v] <+: slotsFrom p) (hq : ∀ y ∈ q, y = p) (hv : v ≠ p) : v = nextOf p := by
  by_cases hp : 1 ≤ p ∧ p ≤ 8
  · obtain ⟨rest, hr⟩ := slots_cons p hp
    rw [hr] at hpre
    match q, hpre, hq with
    | [], hpre, hq =>
      have := (List.cons_prefix_cons.1 hpre).1
      exact absurd this hv
    | [a], hpre, hq =>
      have h1 := (List.cons_prefix_cons.1 hpre).2
      exact (List.cons_prefix_cons.1 h1).1
    | a :: b :: q', hpre, hq =>
      have h1 := (List.cons_prefix_cons.1 hpre).2
      have h2 := (List.cons_prefix_cons.1 h1).1
      exact absurd (h2.symm.trans (hq b (by simp))) (next_ne p hp)
  · rw [slots_no p (by omega)] at hpre
    have := hpre.length_le
    simp at this

set_option maxRecDepth 100000 in
set_option maxHeartbeats 2000000 in
theorem textNext_in (F : Fence) (n : Nat) (h4 : F.fn 22) (h5 : F.fn 59) (h6 : F.fn 90) (hpo : F.fn 77) (hro : F.round = none) (hn : 3 ≤ n) (p : Int) (w : World) :
    CallsIn F n Try.prog 22 #[.int .i64 p] w fun e W' => e = .returned (.int .i64 (nextOf p)) ∧ Below w.heap.size w W' := by
  have h1 : 1 ≤ n := by omega
  refine callsIn_of_wp_marks Try.func22 rfl h4 ?_ hro
  simp only [Try.ntmps22, List.size_toArray, List.length_cons, List.length_nil, Nat.reduceAdd, Nat.reduceSub, Array.replicate_succ, Array.replicate_zero, List.push_toArray, List.append_toArray, List.nil_append, List.cons_append]
  gi_wp2_with (gi_at_call 59; refine (probe_in F (n - 1) h5 hro _ _).mono ?_; rintro e w' ⟨rfl, rfl⟩)
  have c0 := cell_new_l w (.int .i64 p) 3
  have c1 := cell_new_l (w.alloc (.cells #[.int .i64 p] 3)) (.int .i64 0) 3
  have c2 := cell_new_l ((w.alloc (.cells #[.int .i64 p] 3)).alloc (.cells #[.int .i64 0] 3)) (.int .i64 p) 3
  simp only [World.size_alloc] at c1 c2
  have hB0 : Below w.heap.size w (((w.alloc (.cells #[.int .i64 p] 3)).alloc (.cells #[.int .i64 0] 3)).alloc (.cells #[.int .i64 p] 3)) := (((Below.refl _ w).alloc (Nat.le_refl _) _).alloc (by simp) _).alloc (by simp; omega) _
  refine wpIn_rangeFunc_ownF hro h1 (gf := 90) (lb := #[.pointer (some ⟨w.heap.size + 1 + 1, 0, none⟩)]) rfl h6 (enters_of Try.func90 (by kernel_rfl) rfl)
    (probe_stops F (n - 1) h6 hpo hro (by omega) (w.heap.size + 1 + 1) (w.heap.size + 1 + 1 + 1) p _ (by omega) (by simp) c2.1) belowK_t (belowK_b (by simp)) (Below.refl _ _) (fun _ => rfl)
    (fun pre W => ((∀ y ∈ pre, y = p) ∧ W.cell? ⟨w.heap.size, 0, none⟩ = some (.int .i64 p) ∧ W.cell? ⟨w.heap.size + 1, 0, none⟩ = some (.int .i64 0) ∧ W.frozen? ⟨w.heap.size + 1, 0, none⟩ = false) ∧ Below w.heap.size w W)
    (fun c pre W => (c = .ret ∧ ∃ q v, pre = q ++ [v] ∧ (∀ y ∈ q, y = p) ∧ v ≠ p ∧ W.cell? ⟨w.heap.size + 1, 0, none⟩ = some (.int .i64 v)) ∧ Below w.heap.size w W)
    (OwnFrom.and (Own.from (fun s A B row hs hg hr => ⟨hs.1, cell_kept hs.2.1 hg hr, cell_kept hs.2.2.1 hg hr, (frozen_kept hs.2.2.1 hg hr).trans hs.2.2.2⟩) _) (ownFrom_below (Nat.le_refl _) (by simp; omega)))
    (fun c => OwnFrom.and (Own.from (fun s A B row hs hg hr => ⟨hs.1, by obtain ⟨q, v, h1, h2, h3, h4⟩ := hs.2; exact ⟨q, v, h1, h2, h3, cell_kept h4 hg hr⟩⟩) _) (ownFrom_below (Nat.le_refl _) (by simp; omega)))
    ⟨⟨by simp, cell_alloc_l _ (cell_alloc_l _ c0.1), cell_alloc_l _ c1.1, frozen_alloc_l _ c1.1 c1.2⟩, hB0⟩
    (fun x => { tmps := #[.int .i64 p, .pointer (some ⟨w.heap.size, 0, none⟩), .pointer (some ⟨w.heap.size + 1, 0, none⟩), .int .i64 x, .int .i64 p, .func (.func 90) #[] #[.pointer (some ⟨w.heap.size + 1 + 1, 0, none⟩)], .int .i64 x, undef, undef, undef, undef], defers := [] }) ?assign ?body ?done ?stop
  case assign =>
    intro l x W K hK
    gi_wp2
    exact hK
  case body =>
    rintro l pre x W ⟨⟨hp, hcw, hcr, hfr⟩, hB⟩ _
    have HP := Lib.hid hp
    clear hp
    by_cases hx : x = p
    · subst hx
      gi_wp2
      exact ⟨KeepsOthers.refl _, Below.refl _ _, ⟨fun y hy => (List.mem_append.1 hy).elim (HP.out y) (fun e => by simpa using e), hcw, hcr, hfr⟩, hB⟩
    · have hx' : (x != p) = true := by simpa using hx
      gi_wp2
      exact ⟨KeepsOthers.setCell _ _ _, ⟨rfl, pre, x, rfl, HP.out, hx, World.cell?_setCell_same' _ _ _ (by rw [hcr]; rfl)⟩, hB.setCell (p := ⟨w.heap.size + 1, 0, none⟩) (by simp) _⟩
  case done =>
    rintro D ys W hD rfl ⟨⟨hne, _, hcr, hfr⟩, hB⟩ hK
    have HN := Lib.hid (all_same p hne)
    clear hne
    gi_wp2
    have hK' := (KeepsOthers.setCell W ⟨w.heap.size + 1, 0, none⟩ (.int .i64 0)).same D _ hK rfl
    refine ⟨by simp, .inl ⟨_, _, rfl, run_takeDeferred hK', ?_⟩⟩
    have hc5 := cell_kept (World.cell?_setCell_same' W ⟨w.heap.size + 1, 0, none⟩ (.int .i64 0) (by rw [hcr]; rfl)) (grownBy_putObj' _ D (.deferred none)) (fun r e => by cases e; exact ⟨_, hK', rfl⟩)
    refine ⟨.int .i64 0, ?_, by rw [HN.out], (hB.setCell (p := ⟨w.heap.size + 1, 0, none⟩) (by simp) _).trans (belowK_b (w := w) (Nat.le_refl _) _ D _ _ (by simp at hD; omega) hK' rfl rfl)⟩
    simp [results, Try.f22, go_sem, hc5]
  case stop =>
    rintro D c pre W hD hpre ⟨⟨rfl, q, v, rfl, hq, hv, hcr⟩, hB⟩ hK
    have HN := Lib.hid (first_other p v q hpre hq hv)
    clear hpre hq hv
    gi_wp2
    refine ⟨by simp, .inl ⟨_, _, rfl, run_takeDeferred hK, ?_⟩⟩
    have hc5 := cell_kept hcr (grownBy_putObj' _ D (.deferred none)) (fun r e => by cases e; exact ⟨_, hK, rfl⟩)
    refine ⟨.int .i64 v, ?_, by rw [HN.out], hB.trans (belowK_b (w := w) (Nat.le_refl _) W D _ _ (by simp at hD; omega) hK rfl rfl)⟩
    simp [results, Try.f22, go_sem, hc5]

theorem textNext_any (p : Int) (w : World) :
    Calls Try.prog 22 #[.int .i64 p] w fun e W' => e = .returned (.int .i64 (nextOf p)) ∧ Below w.heap.size w W' :=
  callsIn_wide.1 (textNext_in Fence.wide 3 trivial trivial trivial trivial rfl (Nat.le_refl _) p w)

end Go.Proofs.Ytgajhknljnhfmaa
