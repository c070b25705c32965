/- What the program's tableOf answers for whatever slices, and slotsOf: a table as a slice of slots. -/
import Derived.Test.YtgogokahpmljbaaTableIn
namespace Go.Proofs.Ytgogokahpmljbaa
open Go.RowKit
set_option linter.unusedVariables false

theorem flat_extract (xs : List Sl) : ∀ k, k < xs.length → (flat xs).toArray.extract (k * 2) (k * 2 + 2) = #[.string (nth xs k).text, .int .i64 (nth xs k).uses] := by
  intro k hk
  apply Array.ext_getElem?
  intro i
  have h0 := flat_text xs k hk
  have h1 := flat_uses xs k hk
  rcases i with _ | _ | i
  · rw [Array.getElem?_extract_of_lt (by simp [flat_length]; omega)]
    simpa using (List.getElem?_eq_some_iff.1 h0).2
  · rw [Array.getElem?_extract_of_lt (by simp [flat_length]; omega)]
    simpa using (List.getElem?_eq_some_iff.1 h1).2
  · rw [Array.getElem?_eq_none (by simp [flat_length]; omega), Array.getElem?_eq_none (by simp)]

theorem aggItem : ∀ w : World, (isAgg 67).run Try.prog w = .ok true w := fun _ => by kernel_rfl

theorem sizeItem : ∀ w : World, (sizeOf 67).run Try.prog w = .ok 2 w := fun _ => by kernel_rfl

theorem run_index_tab (xs : List Sl) (k : Nat) (hn : xs.length = 8) (hk : k < 8) (w : World) :
    (Instr.index 69 (.agg (flat xs).toArray) (.int .i64 (k : Int))).run Try.prog w = .ok (.agg #[.string (nth xs k).text, .int .i64 (nth xs k).uses]) w := by
  have h2 : (0 : Int) ≤ (k : Int) ∧ (k : Int) < ((8 : Nat) : Int) := by omega
  unfold Instr.index Go.part
  simp only [asIntOf, Sem.run_bind, Sem.run_pure, Result.andThen_ok, run_underlying Try.underlying69, if_pos h2, sizeItem, aggItem, Int.toNat_natCast, if_true, flat_extract xs k (by omega)]

set_option maxHeartbeats 800000 in
theorem tableOf_len (a : Option Addr) (n cap : Nat) (w : World) (hn : n ≠ 8) (hn1 : n ≤ 2000000) :
    Calls Try.prog 31 #[.slice a n cap] w fun e w' => e = .returned (.tuple #[.agg (flat freshS).toArray, .bool false]) ∧ Below w.heap.size w w' := by
  have hb : ((n : Int) != 8) = true := by simp; omega
  have h1 := slotsW_alloc w 69 freshS
  have h2 := slotsW_alloc (w.alloc (.cells (flat freshS).toArray 69)) 69 freshS
  have h3 := h1.alloc (by simp) (.cells (flat freshS).toArray 69)
  simp only [World.size_alloc] at h2
  have H2 := Lib.hid h2
  have H3 := Lib.hid h3
  clear h1 h2 h3
  go_enter Try.func31, Try.ntmps31
  go_wp2_with (first | (refine wpList_load_tab rfl _ rfl _ rfl freshS H2.out.1 rfl ?_) | (refine wpList_store_tab rfl _ _ rfl _ freshS rfl rfl rfl freshS H3.out rfl ?_; intro w2 hs2 hg2))
  have hlv := tab_loadVar hs2.1 rfl
  refine bodyPost_ret (v := .tuple #[.agg (flat freshS).toArray, .bool false]) (by simp [results, Try.f31, asAddr, hlv]) rfl ⟨rfl, ?_⟩
  exact (((Below.refl _ _).alloc (Nat.le_refl _) _).alloc (by simp) _).grown hg2 (by simp; omega) (fun k e => by cases e; exact Nat.le_refl _)

theorem storeB_not_len {xs : List Sl} (h : xs.length ≠ 8) : storeB xs = false := by simp [storeB, h]

theorem tableOf_any (a : Option Addr) (n cap : Nat) (xs : List Sl) (w : World) (hx : Sls w a xs) (hn : xs.length = n) (hn1 : n ≤ 2000000) (ht : ∀ i, i < n → (nth xs i).text.size ≤ maxLen) :
    Calls Try.prog 31 #[.slice a n cap] w (TabOut xs w) := by
  by_cases h8 : n = 8
  · subst h8
    rcases hx with rfl | ⟨g, off, rfl, hx⟩
    · simp at hn
    · exact tableOf_some g off cap xs w hx hn ht
  · refine (tableOf_len a n cap w h8 hn1).mono ?_
    rintro e w' ⟨rfl, hB⟩
    refine ⟨?_, hB⟩
    rw [storeB_not_len (by omega)]; rfl

end Go.Proofs.Ytgogokahpmljbaa
