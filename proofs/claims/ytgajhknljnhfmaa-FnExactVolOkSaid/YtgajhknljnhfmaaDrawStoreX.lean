/- What the draws of chapter 2 answer. -/
import Derived.Test.YtgajhknljnhfmaaDrawStore
namespace Go.Proofs.Ytgajhknljnhfmaa
open Go.RowKit

/-- A drawn slice of slots: new memory, small, to be written. -/
structure DR (w0 w : World) (g off n cap : Nat) (xs : List Sl) : Prop where
  len : xs.length = n
  lo : 7 ≤ n
  hi : n ≤ 8
  cap0 : n ≤ cap
  cap1 : cap ≤ 8
  bnd : Bnd (-1) xs
  gs : g < w.heap.size
  new : w0.heap.size ≤ g
  sl : SlotsW w g off xs
  bel : Below w0.heap.size w0 w

theorem DSt.done {P : Nat} {w0 w1 w : World} {g off n cap : Nat} {xs : List Sl} (h : DSt w0.heap.size P w1 w g off xs) (hb : Below w0.heap.size w0 w1) (h1 : xs.length = n) (h2 : 7 ≤ n) (h3 : n ≤ 8) (h4 : n ≤ cap) (h5 : cap ≤ 8) (h6 : Bnd (-1) xs) : DR w0 w g off n cap xs :=
  ⟨h1, h2, h3, h4, h5, h6, h.gs, Nat.le_trans hb.size h.new, h.sl, hb.grown h.gr hb.size (fun k e => by cases e; exact Nat.le_refl _)⟩

set_option maxHeartbeats 800000 in
theorem drawStoreFind_any (a : Option Addr) (len cap : Nat) (w : World) (h1 : len ≤ cap) (h2 : cap ≤ 9223372036854775807) (hr : Row8 w.heap.size w a len) :
    Calls Try.prog 38 #[.slice a len cap] w fun e w' => ∃ g off n c xs t, e = .returned (.tuple #[.slice (some ⟨g, off, none⟩) n c, .string t]) ∧ t.size ≤ 20 ∧ DR w w' g off n c xs := by
  have ho := l6Open_rd a len cap w h1 h2 hr
  go_enter Try.func38, Try.ntmps38
  go_wp2_with fail
  refine ho.mono ?_
  rintro e w1 ⟨rfl, hR1, hb1⟩
  clear ho
  go_wp2_with fail
  refine (l71Store_any _ 0 w1 hR1 (by omega)).mono ?_
  rintro e w2 ⟨g, off, n, c, xs, rfl, hl, h7, h8, hc1, hc2, hbn, hd⟩
  have HBn := Lib.hid hbn
  have HL := Lib.hid hl
  have HB1 := Lib.hid hb1
  clear hbn hl hb1
  go_wp2_with fail
  go_loopw [6] (fun i wr => ∃ k : Nat, k ≤ 6 ∧ i = .int .i64 (k : Int) ∧ DSt w.heap.size (200 + 2 * k) w1 wr g off xs) (fun i _ => 6 - (intOf i).toNat)
  case atStart => exact ⟨0, by omega, rfl, hd⟩
  case round =>
    obtain ⟨k, hk, rfl, hd⟩ := hrel
    by_cases hlt : k < 6
    · go_wp2_with fail
      refine (pick_any _ _ 5 _ hd.rd (by omega) (by omega)).mono ?_
      rintro e w3 ⟨r, rfl, r0, r1, hR⟩
      have hd3 := hd.ask hR
      clear hR hd
      by_cases hr0 : 0 < r
      · go_wp2_with fail
        refine (pick_any _ _ n _ hd3.rd (by omega) (by omega)).mono ?_
        rintro e w4 ⟨q, rfl, q0, q1, hR⟩
        have hd4 := hd3.ask hR
        clear hR hd3
        obtain ⟨j, rfl⟩ := Int.eq_ofNat_of_zero_le q0
        have hj : j < n := by omega
        obtain ⟨hct, _⟩ := hd4.sl.1 j (by rw [HL.out]; exact hj)
        have HT : Hid ((nth xs j).text.size ≤ 20) := Lib.hid (HBn.out j (by rw [HL.out]; exact hj)).1
        cases he : (nth xs j).text.toList.isEmpty
        · have he2 : (!(nth xs j).text.toList.isEmpty) = true := by rw [he]; rfl
          have hdr := hd4.done HB1.out HL.out h7 h8 hc1 hc2 HBn.out
          have HDR : Hid (∀ m, DR w (w4.drewN m) g off n c xs) := Lib.hid (fun m => ⟨hdr.len, hdr.lo, hdr.hi, hdr.cap0, hdr.cap1, hdr.bnd, hdr.gs, hdr.new, hdr.sl, ⟨hdr.bel.os, hdr.bel.tape, hdr.bel.output, hdr.bel.size, hdr.bel.block⟩⟩)
          clear hdr hd4
          go_wp2_with fail
          go_quiet (fail)
          go_wp2_with fail
          go_ret2
          exact ⟨_, _, _, _, xs, _, rfl, HT.out, HDR.out _⟩
        · have he2 : (!(nth xs j).text.toList.isEmpty) = false := by rw [he]; rfl
          go_wp2_with fail
          go_roundw
          case rel => exact ⟨k + 1, by omega, by go_num, hd4.mono (by omega)⟩
          case measure => simp [intOf]; omega
      · go_wp2_with fail
        refine (l71Text_any _ _ _ hd3.rd (by omega)).mono ?_
        rintro e w4 ⟨t, rfl, ht, hR⟩
        have hdr := (hd3.ask hR).done HB1.out HL.out h7 h8 hc1 hc2 HBn.out
        clear hR hd3
        go_wp2_with fail
        go_ret2
        exact ⟨_, _, _, _, xs, _, rfl, by omega, hdr⟩
    · obtain rfl : k = 6 := by omega
      go_wp2_with fail
      refine (l71Text_any _ _ _ hd.rd (by omega)).mono ?_
      rintro e w4 ⟨t, rfl, ht, hR⟩
      have hdr := (hd.ask hR).done HB1.out HL.out h7 h8 hc1 hc2 HBn.out
      clear hR hd
      go_wp2_with fail
      go_ret2
      exact ⟨_, _, _, _, xs, _, rfl, by omega, hdr⟩

set_option maxHeartbeats 800000 in
theorem drawStoreDrop_any (a : Option Addr) (len cap : Nat) (w : World) (h1 : len ≤ cap) (h2 : cap ≤ 9223372036854775807) (hr : Row8 w.heap.size w a len) :
    Calls Try.prog 36 #[.slice a len cap] w fun e w' => ∃ g off n c xs, ∃ p : Int, e = .returned (.tuple #[.slice (some ⟨g, off, none⟩) n c, .int .i64 p]) ∧ 0 ≤ p ∧ p ≤ 9 ∧ DR w w' g off n c xs := by
  have ho := l6Open_rd a len cap w h1 h2 hr
  go_enter Try.func36, Try.ntmps36
  go_wp2_with fail
  refine ho.mono ?_
  rintro e w1 ⟨rfl, hR1, hb1⟩
  clear ho
  go_wp2_with fail
  refine (l71Store_any _ 0 w1 hR1 (by omega)).mono ?_
  rintro e w2 ⟨g, off, n, c, xs, rfl, hl, h7, h8, hc1, hc2, hbn, hd⟩
  have HBn := Lib.hid hbn
  have HL := Lib.hid hl
  have HB1 := Lib.hid hb1
  clear hbn hl hb1
  go_wp2_with fail
  refine (pick_any _ _ 10 _ hd.rd (by omega) (by omega)).mono ?_
  rintro e w2' ⟨at', rfl, t0, t1, hR⟩
  have hd2 := hd.ask hR
  clear hd hR
  go_wp2_with fail
  go_loopw [7] (fun i wr => ∃ k : Nat, k ≤ 8 ∧ i = .int .i64 (k : Int) ∧ DSt w.heap.size (201 + 2 * k) w1 wr g off xs) (fun i _ => 8 - (intOf i).toNat)
  case atStart => exact ⟨0, by omega, rfl, hd2⟩
  case round =>
    obtain ⟨k, hk, rfl, hd⟩ := hrel
    by_cases hlt : k < 8
    · go_wp2_with fail
      refine (pick_any _ _ 8 _ hd.rd (by omega) (by omega)).mono ?_
      rintro e w3 ⟨r, rfl, r0, r1, hR⟩
      have hd3 := hd.ask hR
      clear hR hd
      by_cases hr0 : 0 < r
      · go_wp2_with fail
        refine (pick_any _ _ n _ hd3.rd (by omega) (by omega)).mono ?_
        rintro e w4 ⟨q, rfl, q0, q1, hR⟩
        have hd4 := hd3.ask hR
        clear hR hd3
        obtain ⟨j, rfl⟩ := Int.eq_ofNat_of_zero_le q0
        have hj : j < n := by omega
        obtain ⟨_, hcu⟩ := hd4.sl.1 j (by rw [HL.out]; exact hj)
        by_cases hup : 0 < (nth xs j).uses
        · have hdr := hd4.done HB1.out HL.out h7 h8 hc1 hc2 HBn.out
          go_wp2_with fail
          go_ret2
          exact ⟨_, _, _, _, xs, _, rfl, by omega, by omega, hdr⟩
        · go_wp2_with fail
          go_roundw
          case rel => exact ⟨k + 1, by omega, by go_num, hd4.mono (by omega)⟩
          case measure => simp [intOf]; omega
      · have hdr := hd3.done HB1.out HL.out h7 h8 hc1 hc2 HBn.out
        clear hd3
        go_wp2_with fail
        go_ret2
        exact ⟨_, _, _, _, xs, _, rfl, t0, by omega, hdr⟩
    · obtain rfl : k = 8 := by omega
      have hdr := hd.done HB1.out HL.out h7 h8 hc1 hc2 HBn.out
      clear hd
      go_wp2_with fail
      go_ret2
      exact ⟨_, _, _, _, xs, _, rfl, t0, by omega, hdr⟩

end Go.Proofs.Ytgajhknljnhfmaa
