/- What the model's StorePut, StoreDrop, StoreFree and StoreNew answer. -/
import Derived.Test.YtgajhknljnhfmaaStoreW
namespace Go.Proofs.Ytgajhknljnhfmaa
open Go.RowKit

/-- A slice of slots that a call has made: from block B on, to be written. -/
def NewSl (B : Nat) (w : World) (v : Value) (xs : List Sl) : Prop :=
  (xs = [] ∧ ∃ a c, v = .slice a 0 c) ∨ ∃ g cap, v = .slice (some ⟨g, 0, none⟩) xs.length cap ∧ B ≤ g ∧ g < w.heap.size ∧ xs.length ≤ cap ∧ SlotsW w g 0 xs

def putB (xs : List Sl) (t : ByteArray) : List Sl × Int × Bool := if goodB xs t = true then putS xs t else ([], 0, false)

def dropOk (xs : List Sl) (place : Int) : Bool := storeB xs && (decide (1 ≤ place) && decide (place ≤ 8)) && !((nth xs (place - 1).toNat).uses == 0)

def dropB (xs : List Sl) (place : Int) : List Sl × Bool := if dropOk xs place = true then (dropS xs (place - 1).toNat, true) else ([], false)

theorem putS_len (xs : List Sl) (t : ByteArray) : (putS xs t).1.length = xs.length := by
  unfold putS; split <;> simp

theorem dropS_len (xs : List Sl) (j : Nat) : (dropS xs j).length = xs.length := by
  unfold dropS; simp

theorem storeB_uses {xs : List Sl} (h : storeB xs = true) (i : Nat) (hi : i < 8) : 0 ≤ (nth xs i).uses ∧ (nth xs i).uses ≤ 1000 := by
  have := okB_range (storeB_ok h i hi); omega

theorem empty_slice (a : Option Addr) (c : Nat) (B : Nat) (w : World) : NewSl B w (.slice a 0 c) [] := .inl ⟨rfl, a, c, rfl⟩

theorem Sls.some_of {w : World} {a : Option Addr} {xs : List Sl} (hx : Sls w a xs) (h1 : storeB xs = true) : ∃ g off, a = some ⟨g, off, none⟩ ∧ Slots w g off xs := by
  rcases hx with rfl | h
  · rw [storeB_nil] at h1; cases h1
  · exact h

set_option maxHeartbeats 800000 in
theorem storePutS_any (a : Option Addr) (n cap : Nat) (xs : List Sl) (t : ByteArray) (w : World) (hx : Sls w a xs) (hn : xs.length = n) (hn1 : n ≤ 2000000) (ht : ∀ i, i < n → (nth xs i).text.size ≤ maxLen) (hts : t.size ≤ maxLen) :
    Calls Try.prog 25 #[.slice a n cap, .string t] w fun e w' => ∃ v, e = .returned (.tuple #[v, .int .i64 (putB xs t).2.1, .bool (putB xs t).2.2]) ∧ NewSl w.heap.size w' v (putB xs t).1 ∧ Below w.heap.size w w' := by
  cases h1 : storeB xs
  · have Hf : Hid (putB xs t = ([], 0, false)) := Lib.hid (by simp [putB, goodB, h1])
    have Hs := Lib.hid (storeOkS_is false a n cap xs w hx hn hn1 ht h1)
    clear hx hn ht h1
    go_enter Try.func25, Try.ntmps25
    go_wp2_with fail
    refine Hs.out.mono ?_
    rintro e w1 ⟨rfl, hD⟩
    go_wp2_with fail
    go_ret3
    rw [Hf.out]
    exact ⟨_, rfl, empty_slice _ _ _ _, (hD.below _).alloc (by rw [hD.heap]; exact Nat.le_refl _) _⟩
  · have Hs := Lib.hid (storeOkS_is true a n cap xs w hx hn hn1 ht h1)
    cases h2 : tokB t.data.toList
    · have Hf : Hid (putB xs t = ([], 0, false)) := Lib.hid (by simp [putB, goodB, h2])
      have Ht := Lib.hid (fun W => textOkS_is t false W hts h2)
      clear hx hn ht h1 h2
      go_enter Try.func25, Try.ntmps25
      go_wp2_with fail
      refine Hs.out.mono ?_
      rintro e w1 ⟨rfl, hD⟩
      go_wp2_with fail
      refine (Ht.out _).mono ?_
      rintro e w2 ⟨rfl, rfl⟩
      go_wp2_with fail
      go_ret3
      rw [Hf.out]
      exact ⟨_, rfl, empty_slice _ _ _ _, (hD.below _).alloc (by rw [hD.heap]; exact Nat.le_refl _) _⟩
    · have Ht := Lib.hid (fun W => textOkS_is t true W hts h2)
      cases h3 : t.toList.isEmpty
      · obtain ⟨g, off, rfl, hx'⟩ := hx.some_of h1
        have hl := storeB_len h1
        obtain rfl : n = 8 := by omega
        have Hf : Hid (putB xs t = putS xs t) := Lib.hid (by simp [putB, goodB, h1, h2, h3])
        have Hl := Lib.hid (fun W hD => l2Copy_any g off 8 cap xs W (Slots.drawn (w' := W) hx' hD) hl (by omega) (by omega))
        have Hq := Lib.hid (fun g' off' cap' W hW => l2Put_any g' off' cap' xs t W hW hl h2 (fun i hi => storeB_uses h1 i hi))
        have HL := Lib.hid hl
        clear hx hx' hn ht h1 h2 hl
        go_enter Try.func25, Try.ntmps25
        go_wp2_with fail
        refine Hs.out.mono ?_
        rintro e w1 ⟨rfl, hD⟩
        go_wp2_with fail
        refine (Ht.out _).mono ?_
        rintro e w2 ⟨rfl, rfl⟩
        go_wp2_with fail
        refine (Hl.out _ hD).mono ?_
        rintro e w3 ⟨g', cap', rfl, hb', hl', hc', hs', hB'⟩
        have hsz := hD.heap
        go_wp2_with fail
        refine (Hq.out g' 0 cap' w3 hs').mono ?_
        rintro e w4 ⟨rfl, hs4, hg4⟩
        go_wp2_with fail
        go_ret3
        rw [Hf.out]
        rw [hsz] at hB' hb'
        have hB2 : Below w.heap.size w w3 := (hD.below _).trans hB'
        refine ⟨_, rfl, .inr ⟨g', cap', ?_, hb', Nat.lt_of_lt_of_le hl' hg4.size, by rw [putS_len, HL.out]; exact hc', hs4⟩, hB2.grown hg4 hB2.size (fun k e => by cases e; exact hb')⟩
        rw [putS_len, HL.out]; rfl
      · have Hf : Hid (putB xs t = ([], 0, false)) := Lib.hid (by simp [putB, goodB, h3])
        clear hx hn ht h1 h2
        go_enter Try.func25, Try.ntmps25
        go_wp2_with fail
        refine Hs.out.mono ?_
        rintro e w1 ⟨rfl, hD⟩
        go_wp2_with fail
        refine (Ht.out _).mono ?_
        rintro e w2 ⟨rfl, rfl⟩
        go_wp2_with fail
        go_ret3
        rw [Hf.out]
        exact ⟨_, rfl, empty_slice _ _ _ _, (hD.below _).alloc (by rw [hD.heap]; exact Nat.le_refl _) _⟩

set_option maxHeartbeats 800000 in
theorem l2Drop_any (g off cap j : Nat) (xs : List Sl) (w : World) (hx : SlotsW w g off xs) (hn : xs.length = 8) (hj : j < 8) (hu : 0 ≤ (nth xs j).uses ∧ (nth xs j).uses ≤ 1000) :
    Calls Try.prog 74 #[.slice (some ⟨g, off, none⟩) 8 cap, .int .i64 ((j : Int) + 1)] w fun e w' =>
      e = .returned (.slice (some ⟨g, off, none⟩) 8 cap) ∧ SlotsW w' g off (dropS xs j) ∧ w.grownBy w' (some g) := by
  obtain ⟨hc, hcu⟩ := hx.1 j (by omega)
  have hf := hx.2 (off + j * 2)
  have hfu := hx.2 (off + j * 2 + 1)
  obtain ⟨hu0, hu1⟩ := hu
  have hd : dropS xs j = xs.set j (if (nth xs j).uses - 1 = 0 then ⟨⟨#[]⟩, (nth xs j).uses - 1⟩ else ⟨(nth xs j).text, (nth xs j).uses - 1⟩) := rfl
  have h1 := hx.uses j (by omega) ((nth xs j).uses - 1)
  have h2 := h1.text j (by rw [List.length_set]; omega) ⟨#[]⟩
  rw [List.set_set, nth_set _ _ _ _ (by omega), if_pos rfl] at h2
  have H1 := Lib.hid h1
  have H2 := Lib.hid h2
  have Hd := Lib.hid hd
  clear h1 h2 hd hx hn
  obtain ⟨x, hxk⟩ : ∃ x, nth xs j = x := ⟨_, rfl⟩
  rw [hxk] at hc hcu hu0 hu1 H1 H2 Hd
  clear hxk
  obtain ⟨t, u⟩ := x
  simp only at hc hcu hu0 hu1 H1 H2 Hd
  cases h0 : (u - 1 == 0)
  · go_enter Try.func74, Try.ntmps74
    go_wp2_with fail
    go_ret
    refine ⟨rfl, ?_, grownBy_setCell _ _ _⟩
    rw [Hd.out, if_neg (by simpa using h0)]
    exact H1.out
  · go_enter Try.func74, Try.ntmps74
    go_wp2_with fail
    go_ret
    refine ⟨rfl, ?_, grownBy_trans (grownBy_setCell _ _ _) (grownBy_setCell _ _ _)⟩
    rw [Hd.out, if_pos (by simpa using h0)]
    exact H2.out

set_option maxHeartbeats 800000 in
theorem storeDropS_any (a : Option Addr) (n cap : Nat) (xs : List Sl) (place : Int) (w : World) (hx : Sls w a xs) (hn : xs.length = n) (hn1 : n ≤ 2000000) (ht : ∀ i, i < n → (nth xs i).text.size ≤ maxLen) :
    Calls Try.prog 37 #[.slice a n cap, .int .i64 place] w fun e w' => ∃ v, e = .returned (.tuple #[v, .bool (dropB xs place).2]) ∧ NewSl w.heap.size w' v (dropB xs place).1 ∧ Below w.heap.size w w' := by
  cases h1 : storeB xs
  · have Hf : Hid (dropB xs place = ([], false)) := Lib.hid (by simp [dropB, dropOk, h1])
    have Hs := Lib.hid (storeOkS_is false a n cap xs w hx hn hn1 ht h1)
    clear hx hn ht h1
    go_enter Try.func37, Try.ntmps37
    go_wp2_with fail
    refine Hs.out.mono ?_
    rintro e w1 ⟨rfl, hD⟩
    go_wp2_with fail
    go_ret2
    rw [Hf.out]
    exact ⟨_, rfl, empty_slice _ _ _ _, (hD.below _).alloc (by rw [hD.heap]; exact Nat.le_refl _) _⟩
  · have Hs := Lib.hid (storeOkS_is true a n cap xs w hx hn hn1 ht h1)
    by_cases h2 : 1 ≤ place ∧ place ≤ 8
    · obtain ⟨j, rfl⟩ : ∃ j : Nat, place = (j : Int) + 1 := ⟨(place - 1).toNat, by omega⟩
      have hj : j < 8 := by omega
      have ej : ((j : Int) + 1 - 1).toNat = j := by omega
      have d1 : decide (1 ≤ (j : Int) + 1) = true := by simp; omega
      have d2 : decide ((j : Int) + 1 ≤ 8) = true := by simp; omega
      obtain ⟨g, off, rfl, hx'⟩ := hx.some_of h1
      have hl := storeB_len h1
      obtain rfl : n = 8 := by omega
      obtain ⟨_, hcu⟩ := hx' j (by omega)
      have hu := storeB_uses h1 j hj
      have Hu := Lib.hid hu
      have Hd : Hid (dropB xs ((j : Int) + 1) = if ((nth xs j).uses == 0) = true then ([], false) else (dropS xs j, true)) := Lib.hid (by
        unfold dropB dropOk
        rw [ej, h1, d1, d2]
        cases ((nth xs j).uses == 0) <;> simp)
      have Hl := Lib.hid (fun W hD => l2Copy_any g off 8 cap xs W (Slots.drawn (w' := W) hx' hD) hl (by omega) (by omega))
      have Hq := Lib.hid (fun g' off' cap' W hW => l2Drop_any g' off' cap' j xs W hW hl hj (storeB_uses h1 j hj))
      have HL := Lib.hid hl
      have Hin : Hid (∀ W, Calls Try.prog 60 #[.int .i64 ((j : Int) + 1), .int .i64 1, .int .i64 8] W fun e w' => e = .returned (.bool true) ∧ w' = W) := Lib.hid (fun W => by
        have := l6In_any ((j : Int) + 1) 1 8 W
        rwa [d1, d2] at this)
      clear hx hx' hn ht h1 hl hu ej d1 d2 h2
      obtain ⟨u, hxu⟩ : ∃ u, (nth xs j).uses = u := ⟨_, rfl⟩
      rw [hxu] at hcu Hd
      clear hxu
      cases h0 : (u == 0)
      · rw [h0] at Hd
        go_enter Try.func37, Try.ntmps37
        go_wp2_with fail
        refine Hs.out.mono ?_
        rintro e w1 ⟨rfl, hD⟩
        rw [← hD.cell] at hcu
        go_wp2_with fail
        refine (Hin.out _).mono ?_
        rintro e w2 ⟨rfl, rfl⟩
        go_wp2_with fail
        refine (Hl.out _ hD).mono ?_
        rintro e w3 ⟨g', cap', rfl, hb', hl', hc', hs', hB'⟩
        have hsz := hD.heap
        go_wp2_with fail
        refine (Hq.out g' 0 cap' w3 hs').mono ?_
        rintro e w4 ⟨rfl, hs4, hg4⟩
        go_wp2_with fail
        go_ret2
        rw [Hd.out, if_neg (by simp)]
        rw [hsz] at hB' hb'
        have hB2 : Below w.heap.size w w3 := (hD.below _).trans hB'
        refine ⟨_, rfl, .inr ⟨g', cap', ?_, hb', Nat.lt_of_lt_of_le hl' hg4.size, by rw [dropS_len, HL.out]; exact hc', hs4⟩, hB2.grown hg4 hB2.size (fun k e => by cases e; exact hb')⟩
        rw [dropS_len, HL.out]; rfl
      · rw [h0] at Hd
        go_enter Try.func37, Try.ntmps37
        go_wp2_with fail
        refine Hs.out.mono ?_
        rintro e w1 ⟨rfl, hD⟩
        rw [← hD.cell] at hcu
        go_wp2_with fail
        refine (Hin.out _).mono ?_
        rintro e w2 ⟨rfl, rfl⟩
        go_wp2_with fail
        go_ret2
        rw [Hd.out, if_pos trivial]
        exact ⟨_, rfl, empty_slice _ _ _ _, (hD.below _).alloc (by rw [hD.heap]; exact Nat.le_refl _) _⟩
    · have hb : (decide (1 ≤ place) && decide (place ≤ 8)) = false := by
        cases hh : (decide (1 ≤ place) && decide (place ≤ 8))
        · rfl
        · simp at hh; omega
      have Hf : Hid (dropB xs place = ([], false)) := Lib.hid (by simp only [dropB, dropOk, hb]; simp)
      have Hin : Hid (∀ W, Calls Try.prog 60 #[.int .i64 place, .int .i64 1, .int .i64 8] W fun e w' => e = .returned (.bool false) ∧ w' = W) := Lib.hid (fun W => by
        have := l6In_any place 1 8 W
        rwa [hb] at this)
      clear hx hn ht h1 h2 hb
      go_enter Try.func37, Try.ntmps37
      go_wp2_with fail
      refine Hs.out.mono ?_
      rintro e w1 ⟨rfl, hD⟩
      go_wp2_with fail
      refine (Hin.out _).mono ?_
      rintro e w2 ⟨rfl, rfl⟩
      go_wp2_with fail
      go_ret2
      rw [Hf.out]
      exact ⟨_, rfl, empty_slice _ _ _ _, (hD.below _).alloc (by rw [hD.heap]; exact Nat.le_refl _) _⟩

/-- How many of the first k slots are free. -/
def freeTo (xs : List Sl) : Nat → Int
  | 0 => 0
  | k + 1 => freeTo xs k + if ((nth xs k).uses == 0) = true then 1 else 0

def freeB (xs : List Sl) : Int := if storeB xs = true then freeTo xs 8 else -1

theorem freeTo_bound (xs : List Sl) (k : Nat) : 0 ≤ freeTo xs k ∧ freeTo xs k ≤ k := by
  induction k with
  | zero => simp [freeTo]
  | succ k ih => simp only [freeTo]; split <;> omega

def freshS : List Sl := List.replicate 8 Sl.none

set_option maxHeartbeats 800000 in
theorem storeNewS_any (w : World) :
    Calls Try.prog 91 #[] w fun e w' => e = .returned (.slice (some ⟨w.heap.size, 0, none⟩) 8 8) ∧ w.heap.size < w'.heap.size ∧ SlotsW w' w.heap.size 0 freshS ∧ Below w.heap.size w w' := by
  obtain ⟨i0, hi, hz0, hz1, hz2⟩ := info_parts Try.infoSlot
  have hrun := run_make_full (P := Try.prog) w w.heap.size 26 35 i0 (.agg #[.string ⟨#[]⟩, .int .i64 0]) 2 Try.underlying26 hi hz0 hz1 .i64 .i64 8 (by rw [hz2]; omega) (by unfold maxLen; omega) (Nat.le_refl _)
  obtain ⟨w2, hr, ho, hg⟩ := hrun
  have Ho := Lib.hid ho
  have Hg := Lib.hid hg
  have hr2 : Sem.run Try.prog (Instr.makeSlice 26 (.int .i64 8) (.int .i64 8)) w = .ok (.slice (some ⟨w.heap.size, 0, none⟩) 8 8) w2 := hr
  clear ho hg hi hz0 hz1 hz2 hr
  go_enter Try.func91, Try.ntmps91
  go_wp2_with fail
  go_ret
  have hf : (madeCells (Value.agg #[.string ⟨#[]⟩, .int .i64 0]).cells (8 * 2)).toList = flat freshS := by kernel_rfl
  have ho := Ho.out
  rw [hf] at ho
  obtain ⟨g, cap, hv, hb, hlt, hcap, hs⟩ := slots_of_own ho (by omega) rfl
  simp only [Value.slice.injEq, Option.some.injEq, Addr.mk.injEq, and_true, true_and] at hv
  obtain ⟨rfl, _⟩ := hv
  exact ⟨rfl, hlt, hs, (Below.refl _ _).grown Hg.out (Nat.le_refl _) (fun k e => by cases e)⟩

end Go.Proofs.Ytgajhknljnhfmaa
