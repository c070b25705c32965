/- The program's PoolNew. -/
import Derived.Test.YtaoaclmcmeaedaaPoolNil
import Derived.Test.YtaoaclmcmeaedaaIter
namespace Go.Proofs.Ytaoaclmcmeaedaa
open Go.RowKit
set_option linter.unusedVariables false
set_option maxRecDepth 100000

theorem mid_slots (W : World) (u : Value) (xs : List Sl) (t : TypeId) : SlotsW (W.alloc (.cells (flat xs ++ [u]).toArray t)) W.heap.size 0 xs := by
  have h := heap_alloc_new W (.cells (flat xs ++ [u]).toArray t)
  refine ⟨fun i hi => ?_, fun o => by unfold World.frozen?; rw [h]; simp⟩
  have hl : (flat xs).length = xs.length * 2 := flat_length xs
  constructor
  · rw [cell_of_row _ _ _ _ _ _ h, List.getElem?_toArray, Nat.zero_add, List.getElem?_append_left (by omega), flat_text xs i hi]
  · rw [cell_of_row _ _ _ _ _ _ h, List.getElem?_toArray, Nat.zero_add, List.getElem?_append_left (by omega), flat_uses xs i hi]

set_option maxHeartbeats 800000 in
theorem poolFrom_nil (w : World) :
    Calls Try.prog 18 #[.agg (flat freshS ++ [Value.map none]).toArray] w fun e w' => ∃ v, e = .returned (.agg #[v, .slice none 0 0]) ∧ NewSl w.heap.size w' v freshS ∧ Below w.heap.size w w' := by
  have h1 := mid_slots w (.map none) freshS 41
  have n1 := new_cells w (flat freshS ++ [Value.map none]).toArray 41
  have m1 : (w.alloc (.cells (flat freshS ++ [Value.map none]).toArray 41)).cell? ⟨w.heap.size, 16, none⟩ = some (.map none) := n1.1 16
  have H1 := Lib.hid h1
  have M1 := Lib.hid m1
  clear h1 n1 m1
  have hgen : ∀ vv : Array Value, vv = (flat freshS ++ [Value.map none]).toArray → Calls Try.prog 18 #[.agg vv] w fun e w' => ∃ v, e = .returned (.agg #[v, .slice none 0 0]) ∧ NewSl w.heap.size w' v freshS ∧ Below w.heap.size w w' := by
    intro vv hv
    go_enter Try.func18, Try.ntmps18
    go_wp2_with (refine wpList_load_tab rfl _ rfl _ rfl freshS (H1.out.alloc (by simp) _).1 rfl ?_)
    refine (slotsOf_any freshS _ rfl).mono ?_
    rintro e w3 ⟨v, rfl, hN, hB⟩
    have hm : w3.cell? ⟨w.heap.size, 16, none⟩ = some (.map none) := by
      refine (hB.cell (p := ⟨w.heap.size, 16, none⟩) (by simp; omega)).trans ?_
      exact (old_cells _ _ _ _ (by simp)).1.trans M1.out
    have hr := new_cells (w.alloc (.cells (flat freshS ++ [Value.map none]).toArray 41)) #[.slice none 0 0, .slice none 0 0] 25
    rw [World.size_alloc] at hr
    have r0 := (hB.cell (p := ⟨w.heap.size + 1, 0, none⟩) (by simp)).trans (hr.1 0)
    have r1 := (hB.cell (p := ⟨w.heap.size + 1, 1, none⟩) (by simp)).trans (hr.1 1)
    have z0 := (hB.frozen (p := ⟨w.heap.size + 1, 0, none⟩) (by simp)).trans (hr.2 0)
    have z1 := (hB.frozen (p := ⟨w.heap.size + 1, 1, none⟩) (by simp)).trans (hr.2 1)
    have hB3 : Below w.heap.size w w3 := (((Below.refl _ _).alloc (Nat.le_refl _) _).alloc (by simp) _).trans (hB.mono (by simp; omega))
    have hsz : w.heap.size + 2 ≤ w3.heap.size := by have := hB.size; simpa using this
    obtain ⟨g, cap, rfl⟩ : ∃ g cap, v = .slice (some ⟨g, 0, none⟩) 8 cap := by
      rcases hN with h | ⟨g, cap, rfl, h1, h2, h3, h4⟩
      · exact absurd h.1 (by simp [freshS])
      · exact ⟨g, cap, rfl⟩
    have R0 := Lib.hid r0
    have R1 := Lib.hid r1
    have Z0 := Lib.hid z0
    have Z1 := Lib.hid z1
    clear hr r0 r1 z0 z1
    have HN := Lib.hid hN
    have HB3 := Lib.hid hB3
    have hz : w.heap.size < w3.heap.size := by omega
    clear hB hN hB3
    go_wp2_with fail
    have n4 := new_cells w3 #[.slice (some ⟨g, 0, none⟩) 8 cap, .slice none 0 0] 25
    have HB4 := Lib.hid (HB3.out.alloc (by omega) (.cells #[.slice (some ⟨g, 0, none⟩) 8 cap, .slice none 0 0] 25))
    have hs4 : (w3.alloc (.cells #[.slice (some ⟨g, 0, none⟩) 8 cap, .slice none 0 0] 25)).heap.size = w3.heap.size + 1 := World.size_alloc _ _
    have hb4 := (Below.refl w3.heap.size w3).alloc (Nat.le_refl _) (.cells #[.slice (some ⟨g, 0, none⟩) 8 cap, .slice none 0 0] 25)
    have HR0 := Lib.hid ((hb4.cell (p := ⟨w.heap.size + 1, 0, none⟩) (by simp; omega)).trans R0.out)
    have HR1 := Lib.hid ((hb4.cell (p := ⟨w.heap.size + 1, 1, none⟩) (by simp; omega)).trans R1.out)
    have HZ0 := Lib.hid ((hb4.frozen (p := ⟨w.heap.size + 1, 0, none⟩) (by simp; omega)).trans Z0.out)
    have HZ1 := Lib.hid ((hb4.frozen (p := ⟨w.heap.size + 1, 1, none⟩) (by simp; omega)).trans Z1.out)
    have c0 := n4.1 0
    have c1 := n4.1 1
    have hN4 := HN.out.below ((Below.refl w3.heap.size w3).alloc (Nat.le_refl _) (.cells #[.slice (some ⟨g, 0, none⟩) 8 cap, .slice none 0 0] 25)) (Nat.le_refl _)
    have HN4 := Lib.hid hN4
    clear n4 hN4 hm hb4
    generalize (w3.alloc (.cells #[.slice (some ⟨g, 0, none⟩) 8 cap, .slice none 0 0] 25)) = w4 at *
    refine (callsIn_wide.1 (maps_Keys_in none _)).mono ?_
    rintro e w5 ⟨rfl, rfl⟩
    go_wp2_with fail
    have hk := callsIn_wide.1 (sorted_keys_nil_in w4)
    rw [hs4] at hk
    refine hk.mono ?_
    clear hk
    rintro e w6 ⟨vs, ss, rfl, rfl, -, hnil, hb6⟩
    obtain rfl := hnil.2 rfl
    rw [World.size_alloc] at hb6
    have d0 := ((hb6.cell (p := ⟨w3.heap.size, 0, none⟩) (by simp; omega)).trans (old_cells _ _ _ _ (by omega)).1).trans c0
    have d1 := ((hb6.cell (p := ⟨w3.heap.size, 1, none⟩) (by simp; omega)).trans (old_cells _ _ _ _ (by omega)).1).trans c1
    have HB6 := Lib.hid ((HB4.out.alloc (by omega) (.cells #[.map none] 39)).trans (hb6.mono (by omega)))
    have HN6 := Lib.hid ((HN4.out.below ((Below.refl w4.heap.size w4).alloc (Nat.le_refl _) (.cells #[.map none] 39)) (Nat.le_refl _)).below hb6 (by simp))
    have hb6' := ((Below.refl w4.heap.size w4).alloc (Nat.le_refl _) (.cells #[.map none] 39)).trans (hb6.mono (by omega))
    have r0 := (hb6'.cell (p := ⟨w.heap.size + 1, 0, none⟩) (by simp; omega)).trans HR0.out
    have r1 := (hb6'.cell (p := ⟨w.heap.size + 1, 1, none⟩) (by simp; omega)).trans HR1.out
    have z0 := (hb6'.frozen (p := ⟨w.heap.size + 1, 0, none⟩) (by simp; omega)).trans HZ0.out
    have z1 := (hb6'.frozen (p := ⟨w.heap.size + 1, 1, none⟩) (by simp; omega)).trans HZ1.out
    clear hb6'
    have hs6 : w3.heap.size < w6.heap.size := by have := hb6.size; simp at this; omega
    have hs7 : w.heap.size + 1 < w6.heap.size := by omega
    clear hb6 hnil c0 c1
    go_wp2_with fail
    go_loop [5, 15] (fun n' i' => i' = .int .i64 0) (fun _ _ => 0)
    case atStart => exact rfl
    case round =>
      obtain rfl := hrel
      go_wp2_with fail
      have hgr := grownBy_trans (grownBy_setCell w6 ⟨w.heap.size + 1, 0, none⟩ (.slice (some ⟨g, 0, none⟩) 8 cap)) (grownBy_setCell _ ⟨w.heap.size + 1, 1, none⟩ (.slice none 0 0))
      refine bodyPost_ret (v := .agg #[.slice (some ⟨g, 0, none⟩) 8 cap, .slice none 0 0]) (by simp [results, Try.f18, go_sem, r0, r1]) rfl ⟨_, rfl, ?_, (HB6.out.setCell (p := ⟨w.heap.size + 1, 0, none⟩) (Nat.le_succ _) _).setCell (p := ⟨w.heap.size + 1, 1, none⟩) (Nat.le_succ _) _⟩
      have hN := HN6.out
      simp only [World.size_alloc] at hN
      rcases hN with h | ⟨g', cap', hv, h1, h2, h3, h4⟩
      · exact absurd h.1 (by simp [freshS])
      · simp only [Value.slice.injEq, Option.some.injEq, Addr.mk.injEq, and_true] at hv
        obtain ⟨rfl, -, rfl⟩ := hv
        exact .inr ⟨g, cap, rfl, by omega, by simpa [World.setCell] using h2, h3, h4.kept hgr h2 (fun e => by simp at e; omega)⟩
  exact hgen _ rfl

end Go.Proofs.Ytaoaclmcmeaedaa
