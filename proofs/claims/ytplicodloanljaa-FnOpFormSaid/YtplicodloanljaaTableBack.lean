/- What the program's tableOf answers for whatever slices, and slotsOf: a table as a slice of slots. -/
import Derived.Test.YtplicodloanljaaTableIn
namespace Go.Proofs.Ytplicodloanljaa
open Go.RowKit
set_option linter.unusedVariables false

theorem flat_extract (xs : List Sl) : ∀ k, k < xs.length → (flat xs).toArray.extract (k * 2) (k * 2 + 2) = #[.string (nth xs k).text, .int .i64 (nth xs k).uses] := by
  intro k hk
  apply Array.ext_getElem?
  intro i
  have h0 := flat_text xs k hk
  have h1 := flat_uses xs k hk
  rcases i with _ | _ | i
  · rw [Array.getElem?_extract_of_lt (by simp [flat_length]; omega)]
    simpa using (List.getElem?_eq_some_iff.1 h0).2
  · rw [Array.getElem?_extract_of_lt (by simp [flat_length]; omega)]
    simpa using (List.getElem?_eq_some_iff.1 h1).2
  · rw [Array.getElem?_eq_none (by simp [flat_length]; omega), Array.getElem?_eq_none (by simp)]

theorem aggItem : ∀ w : World, (isAgg 77).run Try.prog w = .ok true w := fun _ => by kernel_rfl

theorem sizeItem : ∀ w : World, (sizeOf 77).run Try.prog w = .ok 2 w := fun _ => by kernel_rfl

theorem run_index_tab (xs : List Sl) (k : Nat) (hn : xs.length = 8) (hk : k < 8) (w : World) :
    (Instr.index 79 (.agg (flat xs).toArray) (.int .i64 (k : Int))).run Try.prog w = .ok (.agg #[.string (nth xs k).text, .int .i64 (nth xs k).uses]) w := by
  have h2 : (0 : Int) ≤ (k : Int) ∧ (k : Int) < ((8 : Nat) : Int) := by omega
  unfold Instr.index Go.part
  simp only [asIntOf, Sem.run_bind, Sem.run_pure, Result.andThen_ok, run_underlying Try.underlying79, if_pos h2, sizeItem, aggItem, Int.toNat_natCast, if_true, flat_extract xs k (by omega)]

theorem storeB_not_len {xs : List Sl} (h : xs.length ≠ 8) : storeB xs = false := by simp [storeB, h]

end Go.Proofs.Ytplicodloanljaa
