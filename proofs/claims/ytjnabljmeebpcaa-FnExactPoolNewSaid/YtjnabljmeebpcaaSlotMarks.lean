/- What the laws' marks on slots do: each field is written its own mark, and read back. -/
import Derived.Test.YtjnabljmeebpcaaSlotLaws
import Derived.Deep.RegionHeld3
namespace Go.Proofs.Ytjnabljmeebpcaa
open Go.RowKit
set_option maxRecDepth 100000

def mark (k i : Nat) : Sl := ⟨mt (k + 2 * i), ((k + 2 * i + 1 : Nat) : Int)⟩

set_option maxHeartbeats 800000 in
theorem markSlotS_some (g off n cap k : Nat) (xs : List Sl) (w : World) (hx : SlotsW w g off xs) (hn : xs.length = n) (h0 : 0 < n) (hn1 : n ≤ 2000000) (hk : k ≤ 1000000) :
    Calls Try.prog 13 #[.slice (some ⟨g, off, none⟩) n cap, .int .i64 (k : Int)] w fun e w' => e = .returned (.int .i64 ((k + 2 * n : Nat) : Int)) ∧
      (∃ ys, SlotsW w' g off ys ∧ ys.length = n ∧ ∀ i, i < n → nth ys i = mark k i) ∧ w.grownBy w' (some g) := by
  have Hx := Lib.hid hx
  have Hn := Lib.hid hn
  have l1 := hx.1.lt (by omega)
  clear hx hn
  go_enter Try.func13, Try.ntmps13
  go_wp2_with fail
  go_loopw [1, 5] (fun k' i wr => ∃ j : Nat, j ≤ n ∧ i = .int .i64 (j : Int) ∧ k' = .int .i64 ((k + 2 * j : Nat) : Int) ∧ (∃ ys, SlotsW wr g off ys ∧ ys.length = n ∧ ∀ i, i < j → nth ys i = mark k i) ∧ w.grownBy wr (some g)) (fun _ i _ => n - (intOf i).toNat)
  case atStart => exact ⟨0, by omega, rfl, rfl, ⟨xs, Hx.out, Hn.out, fun i hi => by omega⟩, grownBy_refl _ _⟩
  case round =>
    obtain ⟨j, hj, rfl, rfl, ⟨ys, hs, hl, hm⟩, hg⟩ := hrel
    by_cases hlt : j < n
    · have Hs := Lib.hid hs
      have Hl := Lib.hid hl
      have Hm := Lib.hid hm
      have Hg := Lib.hid hg
      have hgl := hg.size
      clear hs hl hm hg
      go_wp2_with fail
      have hM := markText_any (k + 2 * j) wr (by omega)
      refine hM.mono ?_
      rintro e w2 ⟨rfl, hb⟩
      have hs2 : SlotsW w2 g off ys := ⟨Hs.out.1.below hb (by omega), fun o => (hb.frozen (p := ⟨g, o, none⟩) (by show g < wr.heap.size; omega)).trans (Hs.out.2 o)⟩
      obtain ⟨hc, hu⟩ := hs2.1 j (by rw [Hl.out]; exact hlt)
      have hf := hs2.2 (off + j * 2)
      have hfu := hs2.2 (off + j * 2 + 1)
      have H2 := Lib.hid (hs2.both j (by rw [Hl.out]; exact hlt) (mt (k + 2 * j)) ((k + 2 * j + 1 : Nat) : Int))
      have Hw : Hid (w.grownBy w2 (some g)) := Lib.hid (grownBy_trans Hg.out ⟨hb.os, hb.tape, hb.output, hb.size, fun q hq _ => hb.block q hq⟩)
      clear hM hs2 hb
      go_wp2_with fail
      go_roundw
      case rel =>
        refine ⟨j + 1, by omega, by go_num, by go_num, ⟨_, H2.out, by rw [List.length_set]; exact Hl.out, fun i hi => ?_⟩, grownBy_trans Hw.out (grownBy_trans (grownBy_setCell _ _ _) (grownBy_setCell _ _ _))⟩
        rw [nth_set _ _ _ _ (by rw [Hl.out]; exact hlt)]
        by_cases e : j = i
        · subst e; rw [if_pos rfl]; rfl
        · rw [if_neg e]; exact Hm.out i (by omega)
      case measure => simp [intOf]; omega
    · obtain rfl : j = n := by omega
      have Hs := Lib.hid hs
      have Hl := Lib.hid hl
      have Hm := Lib.hid hm
      have Hg := Lib.hid hg
      clear hs hl hm hg
      go_wp2_with fail
      go_ret
      exact ⟨rfl, ⟨ys, Hs.out, Hl.out, Hm.out⟩, Hg.out⟩

theorem held_step {w W w3 : World} {g o : Nat} {m : Value} (hS : W.cell? ⟨g, o, none⟩ = some m ∧ w.heap.size ≤ W.heap.size ∧ Below w.heap.size w W) (hb3 : Below W.heap.size W w3) (l : g < w.heap.size) :
    w3.cell? ⟨g, o, none⟩ = some m ∧ w.heap.size ≤ w3.heap.size ∧ Below w.heap.size w w3 :=
  ⟨(hb3.cell (p := ⟨g, o, none⟩) (by show g < _; have := hS.2.1; omega)).trans hS.1, Nat.le_trans hS.2.1 hb3.size, hS.2.2.trans (hb3.mono hS.2.1)⟩

set_option maxHeartbeats 800000 in
theorem heldSlotS_some (g off n cap k : Nat) (ys : List Sl) (w : World) (hx : Slots w g off ys) (hn : ys.length = n) (h0 : 0 < n) (hn1 : n ≤ 2000000) (hk : k ≤ 1000000) (hm : ∀ i, i < n → nth ys i = mark k i) :
    Calls Try.prog 15 #[.slice (some ⟨g, off, none⟩) n cap, .int .i64 (k : Int)] w fun e w' => e = .returned (.int .i64 ((k + 2 * n : Nat) : Int)) ∧ Below w.heap.size w w' := by
  have Hx := Lib.hid hx
  have Hn := Lib.hid hn
  have Hm := Lib.hid hm
  have l1 := hx.lt (by omega)
  clear hx hn hm
  go_enter Try.func15, Try.ntmps15
  go_wp2_with fail
  go_loopw [1, 5] (fun k' i wr => ∃ j : Nat, j ≤ n ∧ i = .int .i64 (j : Int) ∧ k' = .int .i64 ((k + 2 * j : Nat) : Int) ∧ Below w.heap.size w wr) (fun _ i _ => n - (intOf i).toNat)
  case atStart => exact ⟨0, by omega, rfl, rfl, Below.refl _ _⟩
  case round =>
    obtain ⟨j, hj, rfl, rfl, hB⟩ := hrel
    by_cases hlt : j < n
    · obtain ⟨hc, hu⟩ := Hx.out j (by rw [Hn.out]; exact hlt)
      rw [Hm.out j hlt] at hc hu
      simp only [mark] at hc hu
      have HU := Lib.hid hu
      rw [← hB.cell (p := ⟨g, off + j * 2, none⟩) l1] at hc
      clear hu
      have hgl := hB.size
      have HM := Lib.hid (fun W => markText_any (k + 2 * j) W (by omega))
      obtain ⟨m, hmm⟩ : ∃ m, mt (k + 2 * j) = m := ⟨_, rfl⟩
      rw [hmm] at hc HM
      clear hmm
      go_wp2_with fail
      go_region_held3 (fun w' => w'.cell? ⟨g, off + j * 2, none⟩ = some (.string m) ∧ w.heap.size ≤ w'.heap.size ∧ Below w.heap.size w w') (first | assumption | (refine ⟨?_, ?_, ?_⟩ <;> first | assumption | exact Below.drew (by assumption) | go_keep))
        (first | (go_at_call 22; refine (HM.out _).mono ?_; rintro e w3 ⟨rfl, hb3⟩; have hS3 := held_step (o := off + j * 2) (m := .string m) (by assumption) hb3 l1))
      obtain ⟨hc3, hsz3, hB3⟩ := hS3
      have hu3 := (hB3.cell (p := ⟨g, off + j * 2 + 1, none⟩) l1).trans HU.out
      push_cast at hu3
      go_wp2_with fail
      go_roundw
      case rel => exact ⟨j + 1, by omega, by go_num, by go_num, hB3⟩
      case measure => simp [intOf]; omega
    · obtain rfl : j = n := by omega
      go_wp2_with fail
      go_ret
      exact ⟨rfl, hB⟩

end Go.Proofs.Ytjnabljmeebpcaa
