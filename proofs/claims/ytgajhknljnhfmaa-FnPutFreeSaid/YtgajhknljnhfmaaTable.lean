/- What the program's table of slots answers: an array of pieces with their counts. -/
import Derived.Test.YtgajhknljnhfmaaSlotArg
import Derived.RegionTactic
import Derived.ChangeAlike
import Derived.Laws.ResultCell
namespace Go.Proofs.Ytgajhknljnhfmaa
open Go.RowKit
set_option linter.unusedVariables false

/-- Slot i is in use and has the piece t. -/
def hitB (xs : List Sl) (t : ByteArray) (i : Nat) : Bool := decide (0 < (nth xs i).uses) && (nth xs i).text.toList == t.toList

/-- The first slot in use that has the piece t; 0: there is none. -/
def tfind (xs : List Sl) (t : ByteArray) : Int := match (List.range 8).find? (hitB xs t) with
  | some i => (i : Int) + 1
  | none => 0

theorem tfind_hit (xs : List Sl) (t : ByteArray) (k : Nat) (hk : k < 8) (h : hitB xs t k = true) (hno : ∀ j, j < k → hitB xs t j = false) : tfind xs t = (k : Int) + 1 := by
  have : (List.range 8).find? (hitB xs t) = some k := by
    rw [List.find?_range_eq_some]
    exact ⟨h, List.mem_range.2 hk, fun j hj => by simp [hno j hj]⟩
  simp only [tfind, this]

theorem tfind_none (xs : List Sl) (t : ByteArray) (hno : ∀ j, j < 8 → hitB xs t j = false) : tfind xs t = 0 := by
  have : (List.range 8).find? (hitB xs t) = none := by
    rw [List.find?_range_eq_none]
    exact fun j hj => by simp [hno j hj]
  simp only [tfind, this]

theorem drawn_drew {w : World} : Drawn w w.drew := ⟨1, rfl⟩

theorem Slots.at0 {w : World} {g : Nat} {xs : List Sl} (h : Slots w g 0 xs) (i : Nat) (hi : i < xs.length) :
    w.cell? ⟨g, i * 2, none⟩ = some (.string (nth xs i).text) ∧ w.cell? ⟨g, i * 2 + 1, none⟩ = some (.int .i64 (nth xs i).uses) := by
  have := h i hi
  rwa [Nat.zero_add] at this

set_option maxHeartbeats 800000 in
theorem tfind_any (g : Nat) (xs : List Sl) (t : ByteArray) (w : World) (hx : Slots w g 0 xs) (hn : xs.length = 8) :
    Calls Try.prog 70 #[.pointer (some ⟨g, 0, none⟩), .string t] w fun e w' => e = .returned (.int .i64 (tfind xs t)) ∧ Below w.heap.size w w' := by
  have l1 := hx.lt (by omega)
  have Hx := Lib.hid hx
  have Hn := Lib.hid hn
  clear hx hn
  go_enter Try.func70, Try.ntmps70
  go_wp2_with fail
  go_loopw [9] (fun i wr => ∃ k : Nat, k ≤ 8 ∧ i = .int .i64 (k : Int) ∧ (∀ j, j < k → hitB xs t j = false) ∧ Below w.heap.size w wr) (fun i _ => 8 - (intOf i).toNat)
  case atStart => exact ⟨0, by omega, rfl, fun j hj => by omega, Below.refl _ _⟩
  case round =>
    obtain ⟨k, hk, rfl, hno, hB⟩ := hrel
    have Hno := Lib.hid hno
    clear hno
    by_cases hlt : k < 8
    · obtain ⟨hc, hu⟩ := Hx.out.at0 k (by rw [Hn.out]; exact hlt)
      rw [← hB.cell (p := ⟨g, k * 2, none⟩) l1] at hc
      rw [← hB.cell (p := ⟨g, k * 2 + 1, none⟩) l1] at hu
      have Hh : Hid (hitB xs t k = (decide (0 < (nth xs k).uses) && (nth xs k).text.toList == t.toList)) := Lib.hid rfl
      obtain ⟨x, hxk⟩ : ∃ x, nth xs k = x := ⟨_, rfl⟩
      rw [hxk] at hc hu Hh
      clear hxk
      obtain ⟨t2, u⟩ := x
      simp only at hc hu Hh
      have l2 : g < wr.heap.size := Nat.lt_of_lt_of_le l1 hB.size
      by_cases h1 : 0 < u
      · have d1 : decide (0 < u) = true := by simpa using h1
        cases h2 : (t2.toList == t.toList)
        · rw [d1, h2] at Hh
          go_wp2_with fail
          go_region
          all_goals go_wp2_with fail
          all_goals go_roundw
          case rel => exact ⟨k + 1, by omega, by go_num, fun j hj => by
            by_cases e : j = k
            · subst e; exact Hh.out
            · exact Hno.out j (by omega), (hB.alloc hB.size _).drew⟩
          case measure => simp [intOf]; omega
        · rw [d1, h2] at Hh
          go_wp2_with fail
          go_region
          all_goals go_wp2_with fail
          all_goals go_ret
          all_goals exact ⟨ret_int (by rw [tfind_hit xs t k hlt Hh.out Hno.out]), (hB.alloc hB.size _).drew⟩
      · have d1 : decide (0 < u) = false := by simpa using h1
        rw [d1] at Hh
        go_wp2_with fail
        go_region
        all_goals go_wp2_with fail
        all_goals go_roundw
        case rel => exact ⟨k + 1, by omega, by go_num, fun j hj => by
          by_cases e : j = k
          · subst e; exact Hh.out
          · exact Hno.out j (by omega), (hB.alloc hB.size _).drew⟩
        case measure => simp [intOf]; omega
    · obtain rfl : k = 8 := by omega
      go_wp2_with fail
      go_ret
      exact ⟨ret_int (by rw [tfind_none xs t Hno.out]), hB⟩

set_option maxHeartbeats 800000 in
theorem tfree_any (g : Nat) (xs : List Sl) (w : World) (hx : Slots w g 0 xs) (hn : xs.length = 8) :
    Calls Try.prog 71 #[.pointer (some ⟨g, 0, none⟩)] w fun e w' => e = .returned (.int .i64 (freeTo xs 8)) ∧ Below w.heap.size w w' := by
  have l1 := hx.lt (by omega)
  have Hx := Lib.hid hx
  have Hn := Lib.hid hn
  clear hx hn
  go_enter Try.func71, Try.ntmps71
  go_wp2_with fail
  go_loopw [3, 8] (fun c i wr => ∃ k : Nat, k ≤ 8 ∧ i = .int .i64 (k : Int) ∧ c = .int .i64 (freeTo xs k) ∧ Below w.heap.size w wr) (fun _ i _ => 8 - (intOf i).toNat)
  case atStart => exact ⟨0, by omega, rfl, rfl, Below.refl _ _⟩
  case round =>
    obtain ⟨k, hk, rfl, rfl, hB⟩ := hrel
    by_cases hlt : k < 8
    · obtain ⟨hc, hu⟩ := Hx.out.at0 k (by rw [Hn.out]; exact hlt)
      rw [← hB.cell (p := ⟨g, k * 2, none⟩) l1] at hc
      rw [← hB.cell (p := ⟨g, k * 2 + 1, none⟩) l1] at hu
      have hb := freeTo_bound xs k
      have Hstep : Hid (freeTo xs (k + 1) = freeTo xs k + if ((nth xs k).uses == 0) = true then 1 else 0) := Lib.hid rfl
      obtain ⟨x, hxk⟩ : ∃ x, nth xs k = x := ⟨_, rfl⟩
      rw [hxk] at hc hu Hstep
      clear hxk
      obtain ⟨t2, u⟩ := x
      simp only at hc hu Hstep
      cases h0 : (u == 0)
      · rw [h0] at Hstep
        go_wp2_with fail
        go_roundw
        case rel => exact ⟨k + 1, by omega, by go_num, by rw [Hstep.out]; simp, hB.alloc hB.size _⟩
        case measure => simp [intOf]; omega
      · rw [h0] at Hstep
        go_wp2_with fail
        go_roundw
        case rel => exact ⟨k + 1, by omega, by go_num, by rw [Hstep.out]; simp, hB.alloc hB.size _⟩
        case measure => simp [intOf]; omega
    · obtain rfl : k = 8 := by omega
      go_wp2_with fail
      go_ret
      exact ⟨rfl, hB⟩

set_option maxHeartbeats 800000 in
theorem tdrop_no (g : Nat) (xs : List Sl) (p : Int) (w : World) (hx : Slots w g 0 xs) (hn : xs.length = 8) (h : p < 1 ∨ 8 < p ∨ (nth xs (p - 1).toNat).uses = 0) :
    Calls Try.prog 73 #[.pointer (some ⟨g, 0, none⟩), .int .i64 p] w fun e w' => e = .returned (.bool false) ∧ w' = w := by
  by_cases h1 : p < 1
  · have HPK : Hid ((decide (1 ≤ p) && decide (p ≤ 8)) = false) := Lib.hid (by simp; omega)
    clear h hx hn
    go_enter Try.func73, Try.ntmps73
    go_wp2_with (go_at_call 77; refine (placeOk_any _ _).mono ?_; rw [HPK.out]; rintro e w' ⟨rfl, rfl⟩)
    go_ret
    exact ⟨rfl, rfl⟩
  · have d1 : decide (p < 1) = false := by simpa using h1
    by_cases h2 : 8 < p
    · have HPK : Hid ((decide (1 ≤ p) && decide (p ≤ 8)) = false) := Lib.hid (by simp; omega)
      clear h hx hn
      go_enter Try.func73, Try.ntmps73
      go_wp2_with (go_at_call 77; refine (placeOk_any _ _).mono ?_; rw [HPK.out]; rintro e w' ⟨rfl, rfl⟩)
      go_ret
      exact ⟨rfl, rfl⟩
    · have d2 : decide (8 < p) = false := by simpa using h2
      have h3 : (nth xs (p - 1).toNat).uses = 0 := by omega
      obtain ⟨j, rfl⟩ : ∃ j : Nat, p = (j : Int) + 1 := ⟨(p - 1).toNat, by omega⟩
      rw [show ((j : Int) + 1 - 1).toNat = j from by omega] at h3
      obtain ⟨hc, hu⟩ := hx.at0 j (by omega)
      rw [h3] at hu
      have hj : j < 8 := by omega
      have HPK : Hid ((decide (1 ≤ (j : Int) + 1) && decide ((j : Int) + 1 ≤ 8)) = true) := Lib.hid (by simp; omega)
      clear h hx hn h3
      go_enter Try.func73, Try.ntmps73
      go_wp2_with (go_at_call 77; refine (placeOk_any _ _).mono ?_; rw [HPK.out]; rintro e w' ⟨rfl, rfl⟩)
      go_ret
      exact ⟨rfl, rfl⟩

set_option maxHeartbeats 800000 in
theorem tdrop_yes (g j : Nat) (xs : List Sl) (w : World) (hx : SlotsW w g 0 xs) (hn : xs.length = 8) (hj : j < 8) (hu : 0 < (nth xs j).uses ∧ (nth xs j).uses ≤ 1000) :
    Calls Try.prog 73 #[.pointer (some ⟨g, 0, none⟩), .int .i64 ((j : Int) + 1)] w fun e w' => e = .returned (.bool true) ∧ SlotsW w' g 0 (dropS xs j) ∧ w.grownBy w' (some g) := by
  obtain ⟨hc, hcu⟩ := hx.1.at0 j (by omega)
  have hf := hx.2 (j * 2)
  have hfu := hx.2 (j * 2 + 1)
  obtain ⟨hu0, hu1⟩ := hu
  have hd : dropS xs j = xs.set j (if (nth xs j).uses - 1 = 0 then ⟨⟨#[]⟩, (nth xs j).uses - 1⟩ else ⟨(nth xs j).text, (nth xs j).uses - 1⟩) := rfl
  have h1 := hx.uses j (by omega) ((nth xs j).uses - 1)
  have h2 := (h1.both j (by rw [List.length_set]; omega) ⟨#[]⟩ 0)
  rw [List.set_set] at h2
  simp only [Nat.zero_add] at h1 h2
  have H1 := Lib.hid h1
  have H2 := Lib.hid h2
  have Hd := Lib.hid hd
  clear h1 h2 hd hx hn
  obtain ⟨x, hxk⟩ : ∃ x, nth xs j = x := ⟨_, rfl⟩
  rw [hxk] at hc hcu hu0 hu1 H1 H2 Hd
  clear hxk
  obtain ⟨t, u⟩ := x
  simp only at hc hcu hu0 hu1 H1 H2 Hd
  have d0 : (u == 0) = false := by simp; omega
  have HPK : Hid ((decide (1 ≤ (j : Int) + 1) && decide ((j : Int) + 1 ≤ 8)) = true) := Lib.hid (by simp; omega)
  cases h0 : (u - 1 == 0)
  · go_enter Try.func73, Try.ntmps73
    go_wp2_with (go_at_call 77; refine (placeOk_any _ _).mono ?_; rw [HPK.out]; rintro e w' ⟨rfl, rfl⟩)
    go_region
    all_goals go_wp2_with fail
    all_goals go_ret
    all_goals refine ⟨rfl, ?_, grownBy_trans (grownBy_setCell _ _ _) (drawn_drew.grown _)⟩
    all_goals (rw [Hd.out, if_neg (by simpa using h0)]; exact H1.out.drawn drawn_drew)
  · go_enter Try.func73, Try.ntmps73
    go_wp2_with (go_at_call 77; refine (placeOk_any _ _).mono ?_; rw [HPK.out]; rintro e w' ⟨rfl, rfl⟩)
    go_region
    all_goals go_wp2_with fail
    all_goals go_ret
    all_goals refine ⟨rfl, ?_, grownBy_trans (grownBy_setCell _ _ _) (grownBy_trans (grownBy_setCell _ _ _) (grownBy_trans (grownBy_setCell _ _ _) (drawn_drew.grown _)))⟩
    all_goals (have e : u - 1 = 0 := by simpa using h0)
    all_goals (have h3 := H2.out; rw [e] at h3; rw [Hd.out, if_pos e, e]; exact h3.drawn drawn_drew)

end Go.Proofs.Ytgajhknljnhfmaa
