/- The model's PoolNew, and a drawn change: its box. -/
import Derived.Test.YtgogokahpmljbaaPoolDo
import Derived.Test.YtgogokahpmljbaaDrawText
namespace Go.Proofs.Ytgogokahpmljbaa
open Go.RowKit
set_option linter.unusedVariables false
set_option maxRecDepth 100000

set_option maxHeartbeats 800000 in
theorem poolNew_any (w : World) :
    Calls Try.prog 34 #[] w fun e w' => ∃ g c v, e = .returned (.agg #[.slice (some ⟨g, 0, none⟩) 8 c, v]) ∧ OwnP (w.heap.size + 1) w' g c v [] freshP ∧ Below w.heap.size w w' := by
  have n0 := new_cells w #[.slice none 0 0, .slice none 0 0] 50
  have HB : Hid (Below w.heap.size w (w.alloc (.cells #[.slice none 0 0, .slice none 0 0] 50))) := Lib.hid ((Below.refl _ _).alloc (Nat.le_refl _) _)
  have HS := Lib.hid (storeNewS_any (w.alloc (.cells #[.slice none 0 0, .slice none 0 0] 50)))
  have HN := Lib.hid n0
  clear n0
  go_enter Try.func34, Try.ntmps34
  go_wp2_with fail
  refine HS.out.mono ?_
  rintro e w2 ⟨rfl, hl, hs, hb⟩
  simp only [World.size_alloc] at hl hs hb
  have d0 := (hb.cell (p := ⟨w.heap.size, 0, none⟩) (by simp)).trans (HN.out.1 0)
  have d1 := (hb.cell (p := ⟨w.heap.size, 1, none⟩) (by simp)).trans (HN.out.1 1)
  have z0 := (hb.frozen (p := ⟨w.heap.size, 0, none⟩) (by simp)).trans (HN.out.2 0)
  have z1 := (hb.frozen (p := ⟨w.heap.size, 1, none⟩) (by simp)).trans (HN.out.2 1)
  have HB2 := Lib.hid (HB.out.trans (hb.mono (by omega)))
  have HSL := Lib.hid hs
  have hlt : w.heap.size < w2.heap.size := by omega
  have HL := Lib.hid hl
  clear hs hb hl
  go_wp2_with fail
  have hz : ((w2.setCell ⟨w.heap.size, 0, none⟩ (.slice (some ⟨w.heap.size + 1, 0, none⟩) 8 8)).setCell ⟨w.heap.size, 1, none⟩ (.slice (some ⟨w2.heap.size, 0, none⟩) 0 0)).heap.size = w2.heap.size := by simp [World.setCell]
  have hown := World.ownsRow_made (base := w.heap.size + 1) (e := 25) ((w2.setCell ⟨w.heap.size, 0, none⟩ (.slice (some ⟨w.heap.size + 1, 0, none⟩) 8 8)).setCell ⟨w.heap.size, 1, none⟩ (.slice (some ⟨w2.heap.size, 0, none⟩) 0 0)) #[] 0 (by omega) (by unfold maxLen; omega) rfl (size := 2)
  rw [hz] at hown
  have hsl := (HSL.out.kept (grownBy_trans (grownBy_setCell w2 ⟨w.heap.size, 0, none⟩ (.slice (some ⟨w.heap.size + 1, 0, none⟩) 8 8)) (grownBy_setCell _ ⟨w.heap.size, 1, none⟩ (.slice (some ⟨w2.heap.size, 0, none⟩) 0 0))) HL.out (fun e => by simp at e)).kept (World.grownBy_alloc ((w2.setCell ⟨w.heap.size, 0, none⟩ (.slice (some ⟨w.heap.size + 1, 0, none⟩) 8 8)).setCell ⟨w.heap.size, 1, none⟩ (.slice (some ⟨w2.heap.size, 0, none⟩) 0 0)) (.cells #[] 25) none) (by rw [hz]; have := HL.out; omega) (by simp)
  refine bodyPost_ret (v := .agg #[.slice (some ⟨w.heap.size + 1, 0, none⟩) 8 8, .slice (some ⟨w2.heap.size, 0, none⟩) 0 0]) (by simp [results, Try.f34, go_sem, d0, d1, hlt]) rfl ⟨w.heap.size + 1, 8, (.slice (some ⟨w2.heap.size, 0, none⟩) 0 0), rfl, ⟨Nat.le_refl _, by simp only [World.size_alloc, hz]; have := HL.out; omega, Nat.le_refl _, hsl, ⟨hown, rfl, fun i hi => by simp [freshP] at hi, fun i j _ hj => by simp [freshP] at hj⟩, fun e => ?_, fun i hi => by simp [freshP] at hi⟩, ?_⟩
  · have e2 : w2.heap.size = w.heap.size + 1 := by simpa [Value.ownBlock] using e
    have := HL.out; omega
  · exact ((HB2.out.setCell (p := ⟨w.heap.size, 0, none⟩) (Nat.le_refl _) _).setCell (p := ⟨w.heap.size, 1, none⟩) (Nat.le_refl _) _).alloc (by simp only [hz]; omega) _

end Go.Proofs.Ytgogokahpmljbaa
