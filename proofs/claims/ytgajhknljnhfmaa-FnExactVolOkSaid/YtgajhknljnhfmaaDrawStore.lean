/- What the model's draws of stores answer. -/
import Derived.Test.YtgajhknljnhfmaaSlotArg
namespace Go.Proofs.Ytgajhknljnhfmaa
open Go.RowKit

/-- Drawn slots: short texts, small counts. -/
def Bnd (lo : Int) (xs : List Sl) : Prop := ∀ i, i < xs.length → (nth xs i).text.size ≤ 20 ∧ lo ≤ (nth xs i).uses ∧ (nth xs i).uses ≤ 100

/-- A reader in block B, and slots in a later block g, of the call's own. -/
structure DSt (B P : Nat) (w0 w : World) (g off : Nat) (xs : List Sl) : Prop where
  rd : Rd B P w
  lt : B < g
  gs : g < w.heap.size
  new : w0.heap.size ≤ g
  sl : SlotsW w g off xs
  gr : w0.grownBy w (some B)

theorem DSt.ask {B P Q : Nat} {w0 w w' : World} {g off : Nat} {xs : List Sl} (h : DSt B P w0 w g off xs) (hr : RdTo B Q w w') : DSt B Q w0 w' g off xs :=
  ⟨hr.1, h.lt, Nat.lt_of_lt_of_le h.gs hr.2.size, h.new, h.sl.kept hr.2 h.gs (by intro e; injection e with e; have := h.lt; omega), grownBy_trans h.gr hr.2⟩

theorem DSt.store {B P : Nat} {w0 w w' : World} {g off : Nat} {xs ys : List Sl} (h : DSt B P w0 w g off xs) (hs : SlotsW w' g off ys) (hg : w.grownBy w' (some g)) : DSt B P w0 w' g off ys := by
  have hne : ∀ k, k ≤ B → w'.heap[k]? = w.heap[k]? := fun k hk => hg.block k (by have := h.rd.lt; omega) (by intro e; injection e with e; have := h.lt; omega)
  refine ⟨h.rd.kept (fun q hq => World.cell?_of_block (w := w) (hne q.block hq)) (World.frozen?_of_block (w := w) (a := ⟨B, 1, none⟩) (hne B (Nat.le_refl _))), h.lt, Nat.lt_of_lt_of_le h.gs hg.size, h.new, hs, ?_⟩
  exact ⟨hg.os.trans h.gr.os, hg.tape.trans h.gr.tape, hg.output.trans h.gr.output, Nat.le_trans h.gr.size hg.size,
    fun k hk hn => (hg.block k (Nat.lt_of_lt_of_le hk h.gr.size) (by intro e; injection e with e; have := h.new; omega)).trans (h.gr.block k hk hn)⟩

theorem DSt.mono {B P Q : Nat} {w0 w : World} {g off : Nat} {xs : List Sl} (h : DSt B P w0 w g off xs) (hPQ : P ≤ Q) : DSt B Q w0 w g off xs := ⟨h.rd.mono hPQ, h.lt, h.gs, h.new, h.sl, h.gr⟩

theorem DSt.alloc {B P : Nat} {w0 w : World} {g off : Nat} {xs : List Sl} (h : DSt B P w0 w g off xs) (o : Obj) : DSt B P w0 (w.alloc o) g off xs :=
  ⟨h.rd.alloc o, h.lt, by have := h.gs; simp; omega, h.new, h.sl.kept (World.grownBy_alloc w o none) h.gs (by simp), grownBy_trans h.gr (World.grownBy_alloc w o _)⟩

theorem Bnd.fresh : Bnd 0 freshS := by
  intro i hi
  have h8 : i < 8 := hi
  obtain rfl | rfl | rfl | rfl | rfl | rfl | rfl | rfl : i = 0 ∨ i = 1 ∨ i = 2 ∨ i = 3 ∨ i = 4 ∨ i = 5 ∨ i = 6 ∨ i = 7 := by omega
  all_goals decide

theorem Bnd.set {lo : Int} {xs : List Sl} (h : Bnd lo xs) (j : Nat) (x : Sl) (hj : j < xs.length) (h1 : x.text.size ≤ 20) (h2 : lo ≤ x.uses) (h3 : x.uses ≤ 100) : Bnd lo (xs.set j x) := by
  intro i hi
  rw [List.length_set] at hi
  rw [nth_set _ _ _ _ hj]
  by_cases e : j = i
  · rw [if_pos e]; exact ⟨h1, h2, h3⟩
  · rw [if_neg e]; exact h i hi

theorem Bnd.put {xs : List Sl} (h : Bnd 0 xs) (t : ByteArray) (ht : t.size ≤ 20) (hl : xs.length = 8) : Bnd 0 (putS xs t).1 := by
  have hr := findS_range xs t
  unfold putS
  split
  · exact h
  · rename_i hn
    have hj : ((findS xs t).1 - 1).toNat < xs.length := by omega
    have hb := h _ hj
    exact h.set _ _ hj ht (by show 0 ≤ (nth xs _).uses + 1; omega) (by show (nth xs _).uses + 1 ≤ 100; omega)

theorem Bnd.drop {xs : List Sl} (h : Bnd 0 xs) (j : Nat) (hj : j < xs.length) (hu : 0 < (nth xs j).uses) : Bnd 0 (dropS xs j) := by
  have hb := h j hj
  unfold dropS
  split
  · exact h.set _ _ hj (by show 0 ≤ 20; omega) (by show 0 ≤ (nth xs j).uses - 1; omega) (by show (nth xs j).uses - 1 ≤ 100; omega)
  · exact h.set _ _ hj hb.1 (by show 0 ≤ (nth xs j).uses - 1; omega) (by show (nth xs j).uses - 1 ≤ 100; omega)

theorem Bnd.low {lo lo' : Int} {xs : List Sl} (h : Bnd lo xs) (hl : lo' ≤ lo) : Bnd lo' xs := fun i hi => ⟨(h i hi).1, by have := (h i hi).2.1; omega, (h i hi).2.2⟩

/-- No slot is used more than m times. -/
def Cnt (m : Int) (xs : List Sl) : Prop := ∀ i, i < xs.length → (nth xs i).uses ≤ m

theorem Cnt.fresh : Cnt 0 freshS := by
  intro i hi
  have h8 : i < 8 := hi
  obtain rfl | rfl | rfl | rfl | rfl | rfl | rfl | rfl : i = 0 ∨ i = 1 ∨ i = 2 ∨ i = 3 ∨ i = 4 ∨ i = 5 ∨ i = 6 ∨ i = 7 := by omega
  all_goals decide

theorem Cnt.mono {m m' : Int} {xs : List Sl} (h : Cnt m xs) (hm : m ≤ m') : Cnt m' xs := fun i hi => by have := h i hi; omega

theorem Cnt.set {m : Int} {xs : List Sl} (h : Cnt m xs) (j : Nat) (x : Sl) (hj : j < xs.length) (hx : x.uses ≤ m) : Cnt m (xs.set j x) := by
  intro i hi
  rw [List.length_set] at hi
  rw [nth_set _ _ _ _ hj]
  by_cases e : j = i
  · rw [if_pos e]; exact hx
  · rw [if_neg e]; exact h i hi

theorem Cnt.put {m : Int} {xs : List Sl} (h : Cnt m xs) (t : ByteArray) (hl : xs.length = 8) : Cnt (m + 1) (putS xs t).1 := by
  have hr := findS_range xs t
  unfold putS
  split
  · exact h.mono (by omega)
  · rename_i hn
    have hj : ((findS xs t).1 - 1).toNat < xs.length := by omega
    have hb := h _ hj
    exact (h.mono (by omega)).set _ _ hj (by show (nth xs _).uses + 1 ≤ m + 1; omega)

theorem Cnt.drop {m : Int} {xs : List Sl} (h : Cnt m xs) (j : Nat) (hj : j < xs.length) : Cnt m (dropS xs j) := by
  have hb := h j hj
  unfold dropS
  split
  · exact h.set _ _ hj (by show (nth xs j).uses - 1 ≤ m; omega)
  · exact h.set _ _ hj (by show (nth xs j).uses - 1 ≤ m; omega)

theorem nth_tail (xs : List Sl) (i : Nat) : nth xs.tail i = nth xs (i + 1) := by
  cases xs with
  | nil => simp [nth]
  | cons x r => simp [nth_succ]

theorem Bnd.tail {lo : Int} {xs : List Sl} (h : Bnd lo xs) : Bnd lo xs.tail := by
  intro i hi
  rw [List.length_tail] at hi
  rw [nth_tail]
  exact h (i + 1) (by omega)

theorem SlotsW.tail {w : World} {g off : Nat} {xs : List Sl} (h : SlotsW w g off xs) : SlotsW w g (off + 2) xs.tail := by
  refine ⟨fun i hi => ?_, h.2⟩
  rw [List.length_tail] at hi
  rw [nth_tail]
  have := h.1 (i + 1) (by omega)
  rw [show off + (i + 1) * 2 = off + 2 + i * 2 from by omega] at this
  exact this

theorem lit4 (w : World) (T : TypeId) (a b c d : Int) :
    (w.alloc (.cells #[.int .i64 a, .int .i64 b, .int .i64 c, .int .i64 d] T)).cell? ⟨w.heap.size, 0, none⟩ = some (.int .i64 a) ∧
    (w.alloc (.cells #[.int .i64 a, .int .i64 b, .int .i64 c, .int .i64 d] T)).cell? ⟨w.heap.size, 1, none⟩ = some (.int .i64 b) ∧
    (w.alloc (.cells #[.int .i64 a, .int .i64 b, .int .i64 c, .int .i64 d] T)).cell? ⟨w.heap.size, 2, none⟩ = some (.int .i64 c) ∧
    (w.alloc (.cells #[.int .i64 a, .int .i64 b, .int .i64 c, .int .i64 d] T)).cell? ⟨w.heap.size, 3, none⟩ = some (.int .i64 d) := by
  simp

theorem drop_at (g j : Nat) (xs : List Sl) (w : World) (hx : SlotsW w g 0 xs) (hn : xs.length = 8) (hj : j < 8) (hu : 0 ≤ (nth xs j).uses ∧ (nth xs j).uses ≤ 1000) :
    Calls Try.prog 74 #[.slice (some ⟨g, 0, none⟩) 8 8, .int .i64 (1 + (j : Int))] w fun e w' =>
      e = .returned (.slice (some ⟨g, 0, none⟩) 8 8) ∧ SlotsW w' g 0 (dropS xs j) ∧ w.grownBy w' (some g) := by
  have h := l2Drop_any g 0 8 j xs w hx hn hj hu
  rwa [show ((j : Int) + 1) = 1 + (j : Int) from by omega] at h

set_option maxHeartbeats 2000000 in
theorem l71Store_cnt (B P : Nat) (w : World) (h : Rd B P w) (hP : P ≤ 800000000) :
    Calls Try.prog 62 #[.pointer (some ⟨B, 0, none⟩)] w fun e w' => ∃ g off n cap xs, e = .returned (.slice (some ⟨g, off, none⟩) n cap) ∧ xs.length = n ∧ 7 ≤ n ∧ n ≤ 8 ∧ n ≤ cap ∧ cap ≤ 8 ∧ Bnd (-1) xs ∧ DSt B (P + 200) w w' g off xs ∧ (storeB xs = true → Cnt 16 xs) := by
  have hBw := h.lt
  have H := Lib.hid h
  go_enter Try.func62, Try.ntmps62
  go_wp2_with fail
  refine (storeNewS_any w).mono ?_
  rintro e w1 ⟨rfl, hlt, hs, hB⟩
  have hd : DSt B P w w1 w.heap.size 0 freshS := ⟨h.kept (fun q hq => hB.cell (by omega)) (hB.frozen (p := ⟨B, 1, none⟩) hBw), hBw, hlt, Nat.le_refl _, hs, ⟨hB.os, hB.tape, hB.output, hB.size, fun k hk _ => hB.block k hk⟩⟩
  clear hs hB
  go_wp2_with fail
  refine (pick_any B P 16 w1 hd.rd (by omega) (by omega)).mono ?_
  rintro e w2 ⟨r, rfl, r0, r1, hR⟩
  have hd2 := hd.ask hR
  clear hR hd h
  go_wp2_with fail
  go_loopw [3, 4] (fun s n wr => ∃ (k : Nat) (xs : List Sl), k ≤ 15 ∧ n = .int .i64 (k : Int) ∧ s = .slice (some ⟨w.heap.size, 0, none⟩) 8 8 ∧ xs.length = 8 ∧ Bnd 0 xs ∧ Cnt (15 - (k : Int)) xs ∧ DSt B (P + 1 + 8 * (15 - k)) w wr w.heap.size 0 xs) (fun _ n _ => (intOf n).toNat)
  case atStart =>
    obtain ⟨k, rfl⟩ := Int.eq_ofNat_of_zero_le r0
    exact ⟨k, freshS, by omega, rfl, rfl, rfl, Bnd.fresh, Cnt.fresh.mono (by omega), hd2.mono (by omega)⟩
  case round =>
    obtain ⟨k, xs, hk, rfl, rfl, hl, hb, hcn, hd⟩ := hrel
    have HCN := Lib.hid hcn
    clear hcn
    by_cases hk0 : 0 < k
    · go_wp2_with fail
      refine (l71Text_any B _ wr hd.rd (by omega)).mono ?_
      rintro e w3 ⟨t, rfl, ht, hR⟩
      have hd3 := hd.ask hR
      clear hR hd
      have hts : t.size ≤ maxLen := by unfold maxLen; omega
      have C1 := Lib.hid (fun W => textOkS_any t W hts)
      cases h1 : tokB t.data.toList
      · rw [h1] at C1
        clear h1
        obtain ⟨ys, hys⟩ : ∃ ys, xs = ys := ⟨_, rfl⟩
        rw [hys] at hl hb hd3 HCN
        clear hys
        have hl4 := hl
        have hb4 := hb
        have hd4 := hd3
        clear hl hb hd3
        go_wp2_with fail
        refine (C1.out _).mono ?_
        rintro e w4 ⟨rfl, rfl⟩
        go_wp2_with fail
        refine (pick_any B _ 8 _ hd4.rd (by omega) (by omega)).mono ?_
        rintro e w5 ⟨a, rfl, a0, a1, hR⟩
        have hd5 := hd4.ask hR
        clear hR hd4
        obtain ⟨j, rfl⟩ := Int.eq_ofNat_of_zero_le a0
        have hj : j < 8 := by omega
        go_wp2_with fail
        refine (pick_any B _ 4 _ hd5.rd (by omega) (by omega)).mono ?_
        rintro e w6 ⟨b, rfl, b0, b1, hR⟩
        have hd6 := hd5.ask hR
        clear hR hd5
        have HB4 := Lib.hid hb4
        have HL4 := Lib.hid hl4
        have HD6 := Lib.hid hd6
        have hbj := hb4 j (by omega)
        obtain ⟨_, hcu⟩ := hd6.sl.1 j (by omega)
        simp only [Nat.zero_add] at hcu
        have hu0 := hbj.2.1
        have hu1 := hbj.2.2
        have Hq := Lib.hid (fun W (hW : SlotsW W w.heap.size 0 ys) => drop_at w.heap.size j ys W hW hl4 hj ⟨hu0, by omega⟩)
        clear hb4 hl4 hd6 hbj
        by_cases hb00 : b = 0
        · subst hb00
          by_cases hup : 0 < (nth ys j).uses
          · go_wp2_with fail
            refine (Hq.out _ HD6.out.sl).mono ?_
            rintro e w7 ⟨rfl, hs7, hg7⟩
            have hd7 := HD6.out.store hs7 hg7
            go_wp2_with fail
            go_roundw
            case rel => exact ⟨k - 1, dropS ys j, by omega, by rw [show ((k - 1 : Nat) : Int) = (k : Int) - 1 from by omega], rfl, by rw [dropS_len]; exact HL4.out, HB4.out.drop j (by rw [HL4.out]; exact hj) hup, (HCN.out.drop j (by rw [HL4.out]; exact hj)).mono (by omega), hd7.mono (by omega)⟩
            case measure => simp [intOf]; omega
          · go_wp2_with fail
            go_roundw
            case rel => exact ⟨k - 1, ys, by omega, by rw [show ((k - 1 : Nat) : Int) = (k : Int) - 1 from by omega], rfl, HL4.out, HB4.out, HCN.out.mono (by omega), HD6.out.mono (by omega)⟩
            case measure => simp [intOf]; omega
        · have e0 : (b == 0) = false := by simpa using hb00
          go_wp2_with fail
          go_roundw
          case rel => exact ⟨k - 1, ys, by omega, by rw [show ((k - 1 : Nat) : Int) = (k : Int) - 1 from by omega], rfl, HL4.out, HB4.out, HCN.out.mono (by omega), HD6.out.mono (by omega)⟩
          case measure => simp [intOf]; omega
      · rw [h1] at C1
        cases h2 : t.toList.isEmpty
        · have h2n : (!t.toList.isEmpty) = true := by rw [h2]; rfl
          have Hp := Lib.hid (l2Put_any w.heap.size 0 8 xs t w3 hd3.sl hl h1 (fun i hi => by have := hb i (by omega); omega))
          have Hb := Lib.hid (hb.put t (by omega) hl)
          have Hl : Hid ((putS xs t).1.length = 8) := Lib.hid (by rw [putS_len]; exact hl)
          obtain ⟨R, hR⟩ : ∃ R, putS xs t = R := ⟨_, rfl⟩
          have HCN := Lib.hid (HCN.out.put t hl)
          rw [hR] at Hp Hb Hl HCN
          obtain ⟨ys, pl, ok⟩ := R
          clear h1 hR hb hl
          go_wp2_with fail
          refine (C1.out _).mono ?_
          rintro e w4 ⟨rfl, rfl⟩
          go_wp2_with fail
          refine Hp.out.mono ?_
          rintro e w4 ⟨rfl, hs4, hg4⟩
          have hd4 := hd3.store hs4 hg4
          have hb4 := Hb.out
          have hl4 := Hl.out
          clear hs4 hg4 hd3
          go_wp2_with fail
          refine (pick_any B _ 8 _ hd4.rd (by omega) (by omega)).mono ?_
          rintro e w5 ⟨a, rfl, a0, a1, hR⟩
          have hd5 := hd4.ask hR
          clear hR hd4
          obtain ⟨j, rfl⟩ := Int.eq_ofNat_of_zero_le a0
          have hj : j < 8 := by omega
          go_wp2_with fail
          refine (pick_any B _ 4 _ hd5.rd (by omega) (by omega)).mono ?_
          rintro e w6 ⟨b, rfl, b0, b1, hR⟩
          have hd6 := hd5.ask hR
          clear hR hd5
          have HB4 := Lib.hid hb4
          have HL4 := Lib.hid hl4
          have HD6 := Lib.hid hd6
          have hbj := hb4 j (by omega)
          obtain ⟨_, hcu⟩ := hd6.sl.1 j (by omega)
          simp only [Nat.zero_add] at hcu
          have hu0 := hbj.2.1
          have hu1 := hbj.2.2
          have Hq := Lib.hid (fun W (hW : SlotsW W w.heap.size 0 ys) => drop_at w.heap.size j ys W hW hl4 hj ⟨hu0, by omega⟩)
          clear hb4 hl4 hd6 hbj
          by_cases hb00 : b = 0
          · subst hb00
            by_cases hup : 0 < (nth ys j).uses
            · go_wp2_with fail
              refine (Hq.out _ HD6.out.sl).mono ?_
              rintro e w7 ⟨rfl, hs7, hg7⟩
              have hd7 := HD6.out.store hs7 hg7
              go_wp2_with fail
              go_roundw
              case rel => exact ⟨k - 1, dropS ys j, by omega, by rw [show ((k - 1 : Nat) : Int) = (k : Int) - 1 from by omega], rfl, by rw [dropS_len]; exact HL4.out, HB4.out.drop j (by rw [HL4.out]; exact hj) hup, (HCN.out.drop j (by rw [HL4.out]; exact hj)).mono (by omega), hd7.mono (by omega)⟩
              case measure => simp [intOf]; omega
            · go_wp2_with fail
              go_roundw
              case rel => exact ⟨k - 1, ys, by omega, by rw [show ((k - 1 : Nat) : Int) = (k : Int) - 1 from by omega], rfl, HL4.out, HB4.out, HCN.out.mono (by omega), HD6.out.mono (by omega)⟩
              case measure => simp [intOf]; omega
          · have e0 : (b == 0) = false := by simpa using hb00
            go_wp2_with fail
            go_roundw
            case rel => exact ⟨k - 1, ys, by omega, by rw [show ((k - 1 : Nat) : Int) = (k : Int) - 1 from by omega], rfl, HL4.out, HB4.out, HCN.out.mono (by omega), HD6.out.mono (by omega)⟩
            case measure => simp [intOf]; omega
        · obtain ⟨ys, hys⟩ : ∃ ys, xs = ys := ⟨_, rfl⟩
          rw [hys] at hl hb hd3 HCN
          clear hys h1
          have hl4 := hl
          have hb4 := hb
          have hd4 := hd3
          clear hl hb hd3
          go_wp2_with fail
          refine (C1.out _).mono ?_
          rintro e w4 ⟨rfl, rfl⟩
          go_wp2_with fail
          refine (pick_any B _ 8 _ hd4.rd (by omega) (by omega)).mono ?_
          rintro e w5 ⟨a, rfl, a0, a1, hR⟩
          have hd5 := hd4.ask hR
          clear hR hd4
          obtain ⟨j, rfl⟩ := Int.eq_ofNat_of_zero_le a0
          have hj : j < 8 := by omega
          go_wp2_with fail
          refine (pick_any B _ 4 _ hd5.rd (by omega) (by omega)).mono ?_
          rintro e w6 ⟨b, rfl, b0, b1, hR⟩
          have hd6 := hd5.ask hR
          clear hR hd5
          have HB4 := Lib.hid hb4
          have HL4 := Lib.hid hl4
          have HD6 := Lib.hid hd6
          have hbj := hb4 j (by omega)
          obtain ⟨_, hcu⟩ := hd6.sl.1 j (by omega)
          simp only [Nat.zero_add] at hcu
          have hu0 := hbj.2.1
          have hu1 := hbj.2.2
          have Hq := Lib.hid (fun W (hW : SlotsW W w.heap.size 0 ys) => drop_at w.heap.size j ys W hW hl4 hj ⟨hu0, by omega⟩)
          clear hb4 hl4 hd6 hbj
          by_cases hb00 : b = 0
          · subst hb00
            by_cases hup : 0 < (nth ys j).uses
            · go_wp2_with fail
              refine (Hq.out _ HD6.out.sl).mono ?_
              rintro e w7 ⟨rfl, hs7, hg7⟩
              have hd7 := HD6.out.store hs7 hg7
              go_wp2_with fail
              go_roundw
              case rel => exact ⟨k - 1, dropS ys j, by omega, by rw [show ((k - 1 : Nat) : Int) = (k : Int) - 1 from by omega], rfl, by rw [dropS_len]; exact HL4.out, HB4.out.drop j (by rw [HL4.out]; exact hj) hup, (HCN.out.drop j (by rw [HL4.out]; exact hj)).mono (by omega), hd7.mono (by omega)⟩
              case measure => simp [intOf]; omega
            · go_wp2_with fail
              go_roundw
              case rel => exact ⟨k - 1, ys, by omega, by rw [show ((k - 1 : Nat) : Int) = (k : Int) - 1 from by omega], rfl, HL4.out, HB4.out, HCN.out.mono (by omega), HD6.out.mono (by omega)⟩
              case measure => simp [intOf]; omega
          · have e0 : (b == 0) = false := by simpa using hb00
            go_wp2_with fail
            go_roundw
            case rel => exact ⟨k - 1, ys, by omega, by rw [show ((k - 1 : Nat) : Int) = (k : Int) - 1 from by omega], rfl, HL4.out, HB4.out, HCN.out.mono (by omega), HD6.out.mono (by omega)⟩
            case measure => simp [intOf]; omega
    · obtain rfl : k = 0 := by omega
      go_wp2_with fail
      refine (pick_any B _ 24 wr hd.rd (by omega) (by omega)).mono ?_
      rintro e w3 ⟨q, rfl, q0, q1, hR⟩
      have hd3 := hd.ask hR
      clear hR hd
      by_cases c0 : q = 0
      · subst c0
        go_wp2_with fail
        refine (pick_any B _ 8 _ hd3.rd (by omega) (by omega)).mono ?_
        rintro e w4 ⟨a, rfl, a0, a1, hR⟩
        have hd4 := (hd3.ask hR).alloc (.cells #[.int .i64 (-1), .int .i64 0, .int .i64 1, .int .i64 100] 3)
        clear hR hd3
        obtain ⟨j, rfl⟩ := Int.eq_ofNat_of_zero_le a0
        have hj : j < 8 := by omega
        have hlit := lit4 w4 3 (-1) 0 1 100
        have hls : w4.heap.size < (w4.alloc (.cells #[.int .i64 (-1), .int .i64 0, .int .i64 1, .int .i64 100] 3)).heap.size := by simp
        have hbs : w4.heap.size ≠ B := by have := hd4.lt; have := hd4.gs; simp at this; omega
        have HLs := Lib.hid hls
        have HBs := Lib.hid hbs
        have HLit := Lib.hid hlit
        clear hls hbs hlit
        go_wp2_with fail
        refine (pick_any B _ 4 _ hd4.rd (by omega) (by omega)).mono ?_
        rintro e w5 ⟨b, rfl, b0, b1, hR⟩
        have hd5 := hd4.ask hR
        have HC : ∀ k, w5.cell? ⟨w4.heap.size, k, none⟩ = (w4.alloc (.cells #[.int .i64 (-1), .int .i64 0, .int .i64 1, .int .i64 100] 3)).cell? ⟨w4.heap.size, k, none⟩ := fun k => World.cell?_of_block (hR.2.block w4.heap.size HLs.out (by intro e; injection e with e; exact HBs.out e))
        have k0 := (HC 0).trans HLit.out.1
        have k1 := (HC 1).trans HLit.out.2.1
        have k2 := (HC 2).trans HLit.out.2.2.1
        have k3 := (HC 3).trans HLit.out.2.2.2
        clear hR hd4 HC
        obtain ⟨_, hcu⟩ := hd5.sl.1 j (by omega)
        simp only [Nat.zero_add] at hcu
        have hf := hd5.sl.2 (j * 2 + 1)
        have H2 := Lib.hid (fun u => hd5.sl.uses j (by omega) u)
        simp only [Nat.zero_add] at H2
        have HD := Lib.hid hd5
        have HBd := Lib.hid (fun u (h1 : -1 ≤ u) (h2 : u ≤ 100) => (hb.low (lo' := -1) (by omega)).set j ⟨(nth xs j).text, u⟩ (by omega) (hb j (by omega)).1 h1 h2)
        have HL := Lib.hid hl
        have HCS := Lib.hid (fun (u : Int) (hu : u ≤ 1 ∨ 100 ≤ u) (hs : storeB (xs.set j ⟨(nth xs j).text, u⟩) = true) => (show Cnt 16 (xs.set j ⟨(nth xs j).text, u⟩) from by
          have hr := okB_range (storeB_ok hs j hj)
          rw [nth_set _ _ _ _ (by omega), if_pos rfl] at hr
          exact (HCN.out.mono (m' := 16) (by omega)).set j _ (by omega) (by show u ≤ 16; simp only at hr; omega)))
        clear hd5 hb hl
        obtain ⟨q, rfl⟩ := Int.eq_ofNat_of_zero_le b0
        obtain rfl | rfl | rfl | rfl : q = 0 ∨ q = 1 ∨ q = 2 ∨ q = 3 := by omega
        all_goals
          go_wp2_with fail
          go_ret
          exact ⟨_, _, _, _, _, rfl, by rw [List.length_set]; exact HL.out, by omega, by omega, by omega, by omega, HBd.out _ (by omega) (by omega), (HD.out.store (H2.out _) (grownBy_setCell _ _ _)).mono (by omega), HCS.out _ (by omega)⟩
      · by_cases c1 : q = 1
        · subst c1
          go_wp2_with fail
          refine (pick_any B _ 8 _ hd3.rd (by omega) (by omega)).mono ?_
          rintro e w4 ⟨a, rfl, a0, a1, hR⟩
          have hd4 := hd3.ask hR
          clear hR hd3
          obtain ⟨j, rfl⟩ := Int.eq_ofNat_of_zero_le a0
          have hj : j < 8 := by omega
          go_wp2_with fail
          refine (l71Text_any B _ w4 hd4.rd (by omega)).mono ?_
          rintro e w5 ⟨t, rfl, ht, hR⟩
          have hd5 := hd4.ask hR
          clear hR hd4
          obtain ⟨hc, _⟩ := hd5.sl.1 j (by omega)
          simp only [Nat.zero_add] at hc
          have hf := hd5.sl.2 (j * 2)
          have H2 := Lib.hid (hd5.sl.text j (by omega) t)
          simp only [Nat.zero_add] at H2
          have HD := Lib.hid hd5
          have HBd := Lib.hid (hb.set j ⟨t, (nth xs j).uses⟩ (by omega) (by show t.size ≤ 20; omega) (hb j (by omega)).2.1 (hb j (by omega)).2.2)
          have HL := Lib.hid hl
          have HCS := Lib.hid ((HCN.out.mono (m' := 16) (by omega)).set j ⟨t, (nth xs j).uses⟩ (by omega) (by have := HCN.out j (by omega); show (nth xs j).uses ≤ 16; omega))
          clear hd5 hb hl
          go_wp2_with fail
          go_ret
          exact ⟨_, _, _, _, _, rfl, by rw [List.length_set]; exact HL.out, by omega, by omega, by omega, by omega, HBd.out.low (by omega), (HD.out.store H2.out (grownBy_setCell _ _ _)).mono (by omega), fun _ => HCS.out⟩
        · by_cases c2 : q = 2
          · subst c2
            go_wp2_with fail
            go_ret
            have h3 := hd3.sl.tail
            exact ⟨_, _, _, _, xs.tail, rfl, by rw [List.length_tail, hl], by omega, by omega, by omega, by omega, hb.tail.low (by omega), ⟨hd3.rd.mono (by omega), hd3.lt, hd3.gs, hd3.new, h3, hd3.gr⟩, fun hs => absurd (storeB_len hs) (by rw [List.length_tail, hl]; omega)⟩
          · have e0 : (q == 0) = false := by simpa using c0
            have e1 : (q == 1) = false := by simpa using c1
            have e2 : (q == 2) = false := by simpa using c2
            go_wp2_with fail
            go_ret
            exact ⟨_, _, _, _, xs, rfl, hl, by omega, by omega, by omega, by omega, hb.low (by omega), hd3.mono (by omega), fun _ => HCN.out.mono (by omega)⟩

theorem l71Store_any (B P : Nat) (w : World) (h : Rd B P w) (hP : P ≤ 800000000) :
    Calls Try.prog 62 #[.pointer (some ⟨B, 0, none⟩)] w fun e w' => ∃ g off n cap xs, e = .returned (.slice (some ⟨g, off, none⟩) n cap) ∧ xs.length = n ∧ 7 ≤ n ∧ n ≤ 8 ∧ n ≤ cap ∧ cap ≤ 8 ∧ Bnd (-1) xs ∧ DSt B (P + 200) w w' g off xs := by
  refine (l71Store_cnt B P w h hP).mono ?_
  rintro e w' ⟨g, off, n, cap, xs, h1, h2, h3, h4, h5, h6, h7, h8, _⟩
  exact ⟨g, off, n, cap, xs, h1, h2, h3, h4, h5, h6, h7, h8⟩

end Go.Proofs.Ytgajhknljnhfmaa
