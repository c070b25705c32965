/- What the model's functions on slots answer. -/
import Derived.Test.YtgogokahpmljbaaPlace
import Derived.Deep.QuietTactic
import Derived.BigQuiet
import Derived.Deep.RegionHeld
namespace Go.Proofs.Ytgogokahpmljbaa
open Go.RowKit

/-- The cells from (g, off) on hold the slots xs. -/
def Slots (w : World) (g off : Nat) (xs : List Sl) : Prop :=
  ∀ i, i < xs.length → w.cell? ⟨g, off + i * 2, none⟩ = some (.string (nth xs i).text) ∧ w.cell? ⟨g, off + i * 2 + 1, none⟩ = some (.int .i64 (nth xs i).uses)

/-- The slice that begins at a holds the slots xs. -/
def Sls (w : World) (a : Option Addr) (xs : List Sl) : Prop := xs = [] ∨ ∃ g off, a = some ⟨g, off, none⟩ ∧ Slots w g off xs

/-- Some draws have been made, and nothing else. -/
def Drawn (w w' : World) : Prop := ∃ m, w' = w.drewN m

theorem Drawn.refl (w : World) : Drawn w w := ⟨0, rfl⟩

theorem Drawn.more {w a : World} (h : Drawn w a) (n : Nat) : Drawn w (a.drewN n) := by
  obtain ⟨m, rfl⟩ := h
  exact ⟨m + n, by rw [World.drewN_drewN]⟩

theorem Drawn.trans {a b c : World} (h : Drawn a b) (k : Drawn b c) : Drawn a c := by
  obtain ⟨m, rfl⟩ := k
  exact h.more m

theorem Drawn.cell {w a : World} (h : Drawn w a) (p : Addr) : a.cell? p = w.cell? p := by obtain ⟨m, rfl⟩ := h; rfl

theorem Drawn.frozen {w a : World} (h : Drawn w a) (p : Addr) : a.frozen? p = w.frozen? p := by obtain ⟨m, rfl⟩ := h; rfl

theorem Drawn.heap {w a : World} (h : Drawn w a) : a.heap = w.heap := by obtain ⟨m, rfl⟩ := h; rfl

set_option maxHeartbeats 800000 in
theorem storeOkS_some (g off n cap : Nat) (xs : List Sl) (w : World) (hx : Slots w g off xs) (hn : xs.length = n) (hn1 : n ≤ 2000000) (ht : ∀ i, i < n → (nth xs i).text.size ≤ maxLen) :
    Calls Try.prog 27 #[.slice (some ⟨g, off, none⟩) n cap] w fun e w' => e = .returned (.bool (storeB xs)) ∧ Drawn w w' := by
  have Hx := Lib.hid hx
  have Hn := Lib.hid hn
  have Ht := Lib.hid ht
  clear hx hn ht
  go_enter Try.func27, Try.ntmps27
  go_wp2_with fail
  go_loopw [3] (fun i' wr => ∃ k : Nat, k ≤ n ∧ i' = .int .i64 (k : Int) ∧ Drawn w wr ∧ (List.range k).all (rowB xs) = true) (fun i _ => n - (intOf i).toNat)
  case atStart => exact ⟨0, by omega, rfl, Drawn.refl w, rfl⟩
  case round =>
    obtain ⟨k, hk, rfl, hD, hall⟩ := hrel
    have Hall := Lib.hid hall
    clear hall
    by_cases hlt : k < n
    · obtain ⟨hc, hu⟩ := Hx.out k (by rw [Hn.out]; exact hlt)
      have ht := Ht.out k hlt
      have Hr := Lib.hid (storeB_no xs k (by rw [Hn.out]; exact hlt))
      obtain ⟨x, hxk⟩ : ∃ x, nth xs k = x := ⟨_, rfl⟩
      have Hk := Lib.hid hxk
      rw [hxk] at hc hu ht
      have HC := Lib.hid hc
      rw [← hD.cell] at hc hu
      clear hxk
      obtain ⟨t, u⟩ := x
      simp only at hc hu ht
      have C1 := Lib.hid (fun W => textOkS_any t W ht)
      cases h1 : tokB t.data.toList
      · rw [h1] at C1
        have Hb := Lib.hid (Hr.out (rowB_ok xs k (by rw [Hk.out]; exact okB_tok _ h1)))
        clear h1
        go_wp2_with fail
        go_quiet ((first | (go_at_call 32; refine Calls.quiet_of_same (C1.out _)) | (go_at_call 20; refine Calls.quiet_of_same (l6In_any _ _ _ _))))
        go_wp2_with fail
        go_ret
        refine ⟨?_, hD.more _⟩
        rw [Hb.out]; rfl
      · rw [h1] at C1
        have H1 := Lib.hid h1
        clear h1
        by_cases h2 : 0 ≤ u
        · by_cases h3 : u ≤ 99
          · go_wp2_with fail
            go_quiet ((first | (go_at_call 32; refine Calls.quiet_of_same (C1.out _)) | (go_at_call 20; refine Calls.quiet_of_same (l6In_any _ _ _ _))))
            go_wp2_with fail
            · have h4 : (!((u == 0) == t.toList.isEmpty)) = true := by assumption
              go_ret
              refine ⟨?_, hD.more _⟩
              rw [Hr.out (rowB_ok xs k (by rw [Hk.out]; exact okB_free _ h4))]; rfl
            · have h4 : (!((u == 0) == t.toList.isEmpty)) = false := by assumption
              have Hok := Lib.hid (okB_yes ⟨t, u⟩ H1.out h2 h3 h4)
              clear h4
              obtain ⟨wo, rfl⟩ : ∃ wo : World, wo = wr.drewN nq := ⟨_, rfl⟩
              go_loopw [4] (fun j' ws => ∃ j : Nat, j ≤ k ∧ j' = .int .i64 (j : Int) ∧ Drawn w ws ∧ (List.range j).all (fun q => !dupB (nth xs k) (nth xs q)) = true) (fun j _ => k - (intOf j).toNat)
              case atStart => exact ⟨0, by omega, rfl, hD.more _, rfl⟩
              case round =>
                obtain ⟨j, hj, rfl, hE, hno⟩ := hrel
                have Hno := Lib.hid hno
                clear hno
                by_cases hjk : j < k
                · obtain ⟨hc2, hu2⟩ := Hx.out j (by rw [Hn.out]; omega)
                  obtain ⟨y, hyj⟩ : ∃ y, nth xs j = y := ⟨_, rfl⟩
                  have Hj := Lib.hid hyj
                  rw [hyj, ← hE.cell] at hc2
                  clear hyj
                  have hcE : wr.cell? ⟨g, off + k * 2, none⟩ = some (.string t) := (hE.cell _).trans HC.out
                  obtain ⟨t2, u2⟩ := y
                  simp only at hc2
                  cases he : t.toList.isEmpty
                  · have he2 : (!t.toList.isEmpty) = true := by rw [he]; rfl
                    go_wp2_with fail
                    go_quiet (fail)
                    go_wp2_with fail
                    · have h5 : (t.toList == t2.toList) = true := by assumption
                      go_ret
                      refine ⟨?_, hE.more _⟩
                      rw [Hr.out (rowB_dup xs k j hjk (by rw [Hk.out, Hj.out, dupB_eq _ _ he]; exact h5))]; rfl
                    · have h5 : (t.toList == t2.toList) = false := by assumption
                      go_roundw
                      case rel => exact ⟨j + 1, by omega, by go_num, hE.more _, all_range_succ _ _ Hno.out (by rw [Hk.out, Hj.out, dupB_eq _ _ he]; simpa using h5)⟩
                      case measure => simp [intOf]; omega
                  · have he2 : (!t.toList.isEmpty) = false := by rw [he]; rfl
                    go_wp2_with fail
                    go_quiet (fail)
                    go_wp2_with fail
                    go_roundw
                    case rel => exact ⟨j + 1, by omega, by go_num, hE.more _, all_range_succ _ _ Hno.out (by rw [Hk.out, Hj.out, dupB_empty _ _ he]; rfl)⟩
                    case measure => simp [intOf]; omega
                · obtain rfl : j = k := by omega
                  go_wp2_with fail
                  go_roundw
                  case rel => exact ⟨j + 1, by omega, by go_num, hE, all_range_succ _ _ Hall.out (rowB_yes xs j (by rw [Hk.out]; exact Hok.out) Hno.out)⟩
                  case measure => simp [intOf]; omega
          · have h3' : 99 < u := by omega
            have Hb := Lib.hid (Hr.out (rowB_ok xs k (by rw [Hk.out]; exact okB_high _ h3')))
            have h3d : decide (u ≤ 99) = false := by simpa using h3
            go_wp2_with fail
            go_quiet ((first | (go_at_call 32; refine Calls.quiet_of_same (C1.out _)) | (go_at_call 20; refine Calls.quiet_of_same (l6In_any _ _ _ _))))
            go_wp2_with fail
            go_ret
            refine ⟨?_, hD.more _⟩
            rw [Hb.out]; rfl
        · have h2' : u < 0 := by omega
          have Hb := Lib.hid (Hr.out (rowB_ok xs k (by rw [Hk.out]; exact okB_low _ h2')))
          have h2d : decide (0 ≤ u) = false := by simpa using h2
          go_wp2_with fail
          go_quiet ((first | (go_at_call 32; refine Calls.quiet_of_same (C1.out _)) | (go_at_call 20; refine Calls.quiet_of_same (l6In_any _ _ _ _))))
          go_wp2_with fail
          go_ret
          refine ⟨?_, hD.more _⟩
          rw [Hb.out]; rfl
    · obtain rfl : k = n := by omega
      go_wp2_with fail
      go_ret
      refine ⟨?_, hD⟩
      rw [storeB_all xs (by rw [Hn.out]; exact Hall.out), Hn.out, ← int_eq8]
      rfl

theorem ret_pair {k : IntKind} {a b : Int} {c d : Bool} (h : (a, c) = (b, d)) : Ending.returned (.tuple #[.int k a, .bool c]) = .returned (.tuple #[.int k b, .bool d]) := by
  injection h with h1 h2
  rw [h1, h2]

set_option maxHeartbeats 800000 in
theorem l2Find_any (g off cap : Nat) (xs : List Sl) (t : ByteArray) (w : World) (hx : Slots w g off xs) (hn : xs.length = 8) (ht : tokB t.data.toList = true) :
    Calls Try.prog 55 #[.slice (some ⟨g, off, none⟩) 8 cap, .string t] w fun e w' => e = .returned (.tuple #[.int .i64 (findS xs t).1, .bool (findS xs t).2]) ∧ w' = w := by
  have Hx := Lib.hid hx
  have Hn := Lib.hid hn
  have Hp := Lib.hid (fun W => l1Place_any t W ht)
  clear hx hn ht
  go_enter Try.func55, Try.ntmps55
  go_wp2_with fail
  refine (Hp.out _).mono ?_
  rintro e w' ⟨rfl, rfl⟩
  go_wp2_with fail
  go_loop [6, 7, 8] (fun at' fr i => ∃ (k j : Nat) (free : Int), k ≤ 8 ∧ j < 8 ∧ i = .int .i64 (k : Int) ∧ at' = .int .i64 ((j : Int) + 1) ∧ fr = .int .i64 free ∧ findGo xs t (8 - k) ((j : Int) + 1) free = findS xs t) (fun _ _ i => 8 - (intOf i).toNat)
  case atStart =>
    have h0 : 0 ≤ ws 0 t.data.toList % 8 := Int.emod_nonneg _ (by omega)
    have h1 : ws 0 t.data.toList % 8 < 8 := Int.emod_lt_of_pos _ (by omega)
    exact ⟨0, (ws 0 t.data.toList % 8).toNat, 0, by omega, by omega, rfl, by rw [Int.toNat_of_nonneg h0], rfl, by rw [Int.toNat_of_nonneg h0]; rfl⟩
  case round =>
    obtain ⟨k, j, free, hk, hj, rfl, rfl, rfl, hf⟩ := hrel
    have Hf := Lib.hid hf
    clear hf
    by_cases hlt : k < 8
    · obtain ⟨hc, hu⟩ := Hx.out j (by rw [Hn.out]; exact hj)
      obtain ⟨x, hxk⟩ : ∃ x, nth xs j = x := ⟨_, rfl⟩
      have Hk := Lib.hid hxk
      rw [hxk] at hc hu
      clear hxk
      obtain ⟨t2, u⟩ := x
      simp only at hc hu
      cases he : (t2.toList == t.toList)
      · have H1 := Lib.hid (findGo_on xs t (8 - (k + 1)) j free (by rw [Hk.out]; exact he))
        have e8 : 8 - k = 8 - (k + 1) + 1 := by omega
        have H2 := Lib.hid (show findGo xs t (8 - (k + 1)) (((j : Int) + 1) % 8 + 1) (if ((nth xs j).uses == 0 && free == 0) = true then (j : Int) + 1 else free) = findS xs t by rw [← H1.out, ← e8]; exact Hf.out)
        clear e8
        have m0 : 0 ≤ ((j : Int) + 1) % 8 := Int.emod_nonneg _ (by omega)
        have m1 : ((j : Int) + 1) % 8 < 8 := Int.emod_lt_of_pos _ (by omega)
        have Hm := Lib.hid (show (((((j : Int) + 1) % 8).toNat : Nat) : Int) = ((j : Int) + 1) % 8 from Int.toNat_of_nonneg m0)
        cases hz : (u == 0)
        · go_wp2_with (go_at_call 57; refine (l1Next_any _ _ (by omega) (by omega)).mono ?_; rintro e w' ⟨rfl, rfl⟩)
          go_round
          case rel => exact ⟨k + 1, (((j : Int) + 1) % 8).toNat, free, by omega, by omega, by go_num, by rw [Hm.out], rfl, by rw [Hm.out, ← H2.out]; congr 1; rw [Hk.out]; simp [hz]⟩
          case measure => simp [intOf]; omega
        · cases hz2 : (free == 0)
          · go_wp2_with (go_at_call 57; refine (l1Next_any _ _ (by omega) (by omega)).mono ?_; rintro e w' ⟨rfl, rfl⟩)
            go_round
            case rel => exact ⟨k + 1, (((j : Int) + 1) % 8).toNat, free, by omega, by omega, by go_num, by rw [Hm.out], rfl, by rw [Hm.out, ← H2.out]; congr 1; rw [Hk.out]; simp [hz, hz2]⟩
            case measure => simp [intOf]; omega
          · go_wp2_with (go_at_call 57; refine (l1Next_any _ _ (by omega) (by omega)).mono ?_; rintro e w' ⟨rfl, rfl⟩)
            go_round
            case rel => exact ⟨k + 1, (((j : Int) + 1) % 8).toNat, ((j : Int) + 1), by omega, by omega, by go_num, by rw [Hm.out], rfl, by rw [Hm.out, ← H2.out]; congr 1; rw [Hk.out]; simp [hz, hz2]⟩
            case measure => simp [intOf]; omega
      · have H1 := Lib.hid (findGo_hit xs t (8 - (k + 1)) j free (by rw [Hk.out]; exact he))
        go_wp2_with fail
        go_ret2
        refine ⟨ret_pair ?_, rfl⟩
        rw [← Hf.out, show 8 - k = 8 - (k + 1) + 1 from by omega, H1.out]
    · obtain rfl : k = 8 := by omega
      go_wp2_with fail
      go_ret2
      exact ⟨ret_pair (by rw [← Hf.out]; rfl), rfl⟩

end Go.Proofs.Ytgogokahpmljbaa
