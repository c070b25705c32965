/- What the program's tableOf answers for whatever slices, and slotsOf: a table as a slice of slots. -/
import Derived.Test.YtjnabljmeebpcaaTableIn
namespace Go.Proofs.Ytjnabljmeebpcaa
open Go.RowKit
set_option linter.unusedVariables false

theorem flat_extract (xs : List Sl) : ∀ k, k < xs.length → (flat xs).toArray.extract (k * 2) (k * 2 + 2) = #[.string (nth xs k).text, .int .i64 (nth xs k).uses] := by
  intro k hk
  apply Array.ext_getElem?
  intro i
  have h0 := flat_text xs k hk
  have h1 := flat_uses xs k hk
  rcases i with _ | _ | i
  · rw [Array.getElem?_extract_of_lt (by simp [flat_length]; omega)]
    simpa using (List.getElem?_eq_some_iff.1 h0).2
  · rw [Array.getElem?_extract_of_lt (by simp [flat_length]; omega)]
    simpa using (List.getElem?_eq_some_iff.1 h1).2
  · rw [Array.getElem?_eq_none (by simp [flat_length]; omega), Array.getElem?_eq_none (by simp)]

theorem aggItem : ∀ w : World, (isAgg 33).run Try.prog w = .ok true w := fun _ => by kernel_rfl

theorem sizeItem : ∀ w : World, (sizeOf 33).run Try.prog w = .ok 2 w := fun _ => by kernel_rfl

theorem run_index_tab (xs : List Sl) (k : Nat) (hn : xs.length = 8) (hk : k < 8) (w : World) :
    (Instr.index 35 (.agg (flat xs).toArray) (.int .i64 (k : Int))).run Try.prog w = .ok (.agg #[.string (nth xs k).text, .int .i64 (nth xs k).uses]) w := by
  have h2 : (0 : Int) ≤ (k : Int) ∧ (k : Int) < ((8 : Nat) : Int) := by omega
  unfold Instr.index Go.part
  simp only [asIntOf, Sem.run_bind, Sem.run_pure, Result.andThen_ok, run_underlying Try.underlying35, if_pos h2, sizeItem, aggItem, Int.toNat_natCast, if_true, flat_extract xs k (by omega)]

theorem storeB_not_len {xs : List Sl} (h : xs.length ≠ 8) : storeB xs = false := by simp [storeB, h]

set_option maxRecDepth 100000 in
set_option maxHeartbeats 800000 in
theorem slotsOf_any (xs : List Sl) (w : World) (hn : xs.length = 8) :
    Calls Try.prog 17 #[.agg (flat xs).toArray] w fun e w' => ∃ v, e = .returned v ∧ NewSl w.heap.size w' v xs ∧ Below w.heap.size w w' := by
  have hT := slotsW_alloc w 35 xs
  obtain ⟨w0, hw0⟩ : ∃ w0, w0 = w.alloc (.cells (flat xs).toArray 35) := ⟨_, rfl⟩
  rw [← hw0] at hT
  have hs0 : w.heap.size < w0.heap.size := by rw [hw0]; simp
  have hB0 : Below w.heap.size w w0 := by rw [hw0]; exact (Below.refl _ _).alloc (Nat.le_refl _) _
  obtain ⟨i0, hi, hz0, hz1, hz2⟩ := info_parts Try.infoSlot
  have hrun := run_make_full (P := Try.prog) w0 w0.heap.size 22 54 i0 (.agg #[.string ⟨#[]⟩, .int .i64 0]) 2 Try.underlying22 hi hz0 hz1 .i64 .i64 8 (by rw [hz2]; omega) (by unfold maxLen; omega) (Nat.le_refl _)
  obtain ⟨w2, hr, ho, hg⟩ := hrun
  rw [madeSlots 8] at ho
  obtain ⟨g', cap', hv, hb', hlt', hcap', hs'⟩ := slots_of_own ho (by omega) (by simp)
  simp only [Value.slice.injEq, Option.some.injEq, Addr.mk.injEq, and_true, true_and] at hv
  obtain ⟨rfl, rfl⟩ := hv
  have Hs := Lib.hid hs'
  have hB2 : Below w.heap.size w w2 := hB0.grown hg hB0.size (fun k e => by cases e)
  have HT := Lib.hid (hT.kept hg hs0 (by simp))
  have hr2 : Sem.run Try.prog (Instr.makeSlice 22 (.int .i64 8) (.int .i64 8)) w0 = .ok (.slice (some ⟨w0.heap.size, 0, none⟩) 8 8) w2 := hr
  clear hi hz0 hz1 hz2 ho hs' hg hT hr
  have Hn := Lib.hid hn
  have HI := Lib.hid (fun k hk W => run_index_tab xs k Hn.out hk W)
  clear hn
  subst hw0
  go_enter Try.func17, Try.ntmps17
  go_wp2_with (refine wpList_load_tab rfl _ rfl _ rfl xs HT.out.1 Hn.out ?_)
  go_loopw [8] (fun i wr => ∃ k : Nat, k ≤ 8 ∧ i = .int .i64 (k : Int) ∧ (∃ ys, SlotsW wr (w.heap.size + 1) 0 ys ∧ ys.length = 8 ∧ ∀ i, i < k → nth ys i = nth xs i) ∧ w.heap.size + 1 < wr.heap.size ∧ Below w.heap.size w wr) (fun i _ => 8 - (intOf i).toNat)
  case atStart =>
    refine ⟨0, by omega, rfl, ⟨List.replicate 8 Sl.none, ?_, List.length_replicate, fun i hi => absurd hi (Nat.not_lt_zero i)⟩, ?_, hB2⟩
    · have := Hs.out
      rwa [World.size_alloc] at this
    · rwa [World.size_alloc] at hlt'
  case round =>
    obtain ⟨k, hk, rfl, ⟨ys, hs, hl, hm⟩, hsz, hB⟩ := hrel
    clear hr2 hlt' hB2 hs0 hB0
    have HS := Lib.hid hs
    have HL := Lib.hid hl
    have HM := Lib.hid hm
    clear hs hl hm
    by_cases hlt : k < 8
    · have hidx := HI.out k hlt
      obtain ⟨hd, hv⟩ := HS.out.1.at0 k (by rw [HL.out]; exact hlt)
      have hf := HS.out.2 (k * 2)
      have hfu := HS.out.2 (k * 2 + 1)
      have H2 := HS.out.both k (by rw [HL.out]; exact hlt) (nth xs k).text (nth xs k).uses
      simp only [Nat.zero_add] at H2
      have H2 := Lib.hid H2
      go_wp2_with fail
      go_roundw
      case rel =>
        refine ⟨k + 1, by omega, by go_num, ⟨_, H2.out.alloc (by simpa [World.setCell] using hsz) _, by rw [List.length_set]; exact HL.out, fun i hi => ?_⟩, by simp [World.setCell]; omega, (((hB.setCell (by simp) _).setCell (by simp) _).alloc (by simpa [World.setCell] using hB.size) _)⟩
        rw [nth_set _ _ _ _ (by rw [HL.out]; exact hlt)]
        by_cases e : k = i
        · subst e; rw [if_pos rfl]
        · rw [if_neg e]; exact HM.out i (by omega)
      case measure => simp [intOf]; omega
    · obtain rfl : k = 8 := by omega
      have hxy : ys = xs := list_ext_nth ys xs (by rw [HL.out, Hn.out]) (fun i hi => HM.out i (by rw [HL.out] at hi; exact hi))
      have HX := Lib.hid hxy
      clear hxy
      go_wp2_with fail
      go_ret
      refine ⟨_, rfl, .inr ⟨w.heap.size + 1, 8, by rw [Hn.out]; rfl, by omega, hsz, by rw [Hn.out]; exact Nat.le_refl _, ?_⟩, hB⟩
      have := HS.out
      rwa [HX.out] at this

end Go.Proofs.Ytjnabljmeebpcaa
