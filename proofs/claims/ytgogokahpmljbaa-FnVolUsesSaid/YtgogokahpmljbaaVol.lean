/- What the model's functions on disks answer. -/
import Derived.Test.YtgogokahpmljbaaPoolOps
namespace Go.Proofs.Ytgogokahpmljbaa
open Go.RowKit
set_option linter.unusedVariables false
set_option maxRecDepth 100000

/-- The cells from (g, off) on hold the blocks bs. -/
def IntsAt (w : World) (g off : Nat) (bs : List Int) : Prop := ∀ i, i < bs.length → w.cell? ⟨g, off + i, none⟩ = some (.int .i64 (bth bs i))

def Ints (w : World) (a : Option Addr) (bs : List Int) : Prop := bs = [] ∨ ∃ g off, a = some ⟨g, off, none⟩ ∧ IntsAt w g off bs

theorem ints_lt {w : World} {g off : Nat} {bs : List Int} (h : IntsAt w g off bs) (hn : 0 < bs.length) : g < w.heap.size :=
  World.block_lt_of_cell? w ⟨g, off + 0, none⟩ (h 0 hn)

theorem intsAt_below {w w' : World} {B g off : Nat} {bs : List Int} (h : IntsAt w g off bs) (hb : Below B w w') (hg : g < B) : IntsAt w' g off bs :=
  fun i hi => (hb.cell (p := ⟨g, off + i, none⟩) hg).trans (h i hi)

theorem ints_below {w w' : World} {B : Nat} {a : Option Addr} {bs : List Int} (h : Ints w a bs) (hb : Below B w w') (hB : w.heap.size ≤ B) : Ints w' a bs := by
  rcases h with h | ⟨g, off, e, hx⟩
  · exact .inl h
  · by_cases hl : 0 < bs.length
    · exact .inr ⟨g, off, e, intsAt_below hx hb (by have := ints_lt hx hl; omega)⟩
    · exact .inl (List.eq_nil_of_length_eq_zero (by omega))

theorem ints_at {w : World} {a : Option Addr} {bs : List Int} (h : Ints w a bs) (i : Nat) (hi : i < bs.length) : ∃ g off, a = some ⟨g, off, none⟩ ∧ IntsAt w g off bs := by
  rcases h with rfl | h
  · simp at hi
  · exact h

/-- A slice of blocks. -/
def Intv (w : World) (v : Value) (bs : List Int) : Prop := ∃ a n c, v = .slice a n c ∧ bs.length = n ∧ n ≤ 2000000 ∧ Ints w a bs

theorem intv_below {w w' : World} {B : Nat} {v : Value} {bs : List Int} (h : Intv w v bs) (hb : Below B w w') (hB : w.heap.size ≤ B) : Intv w' v bs := by
  obtain ⟨a, n, c, hv, hn, hn1, hs⟩ := h
  exact ⟨a, n, c, hv, hn, hn1, ints_below hs hb hB⟩

theorem nameB_one (s : ByteArray) (h : s.size = 1) : nameB s.data.toList = (decide (65 ≤ ((s[0]'(by omega)).toNat : Int)) && decide (((s[0]'(by omega)).toNat : Int) ≤ 68)) := by
  have e : s.data.toList = [s[0]'(by omega)] := by
    apply List.ext_getElem
    · simpa using h
    · intro i h1 h2
      have : i = 0 := by simp at h2; omega
      subst this; rfl
  rw [e]
  simp only [nameB]
  congr 1
  · simp only [decide_eq_decide]; omega
  · simp only [decide_eq_decide]; omega

theorem nameB_other (s : ByteArray) (h : s.size ≠ 1) : nameB s.data.toList = false := by
  have hl : s.data.toList.length = s.size := by simp
  match hh : s.data.toList with
  | [] => rfl
  | [c] => rw [hh] at hl; simp at hl; omega
  | c :: d :: r => rfl

set_option maxHeartbeats 400000 in
theorem l3Name_any (s : ByteArray) (w : World) (hs : s.size ≤ maxLen) :
    Calls Try.prog 22 #[.string s] w fun e w' => e = .returned (.bool (nameB s.data.toList)) ∧ w' = w := by
  unfold maxLen at hs
  by_cases h1 : s.size = 1
  · have Hn := Lib.hid (nameB_one s h1)
    have h0 : 0 < s.size := by omega
    have hb : ((s.size : Int) == 1) = true := by simp; omega
    obtain ⟨c, hc⟩ : ∃ c, s[0]'(by omega) = c := ⟨_, rfl⟩
    rw [hc] at Hn
    have hc' : s[0]? = some c := by rw [getElem?_pos s 0 h0, hc]
    have hw := w64_byte c
    have Hc := Lib.hid hc
    clear hc h1
    go_enter Try.func22, Try.ntmps22
    go_wp2_with (go_at_call 20; refine (l6In_any _ _ _ _).mono ?_; rintro e w' ⟨rfl, rfl⟩)
    go_ret
    refine ⟨?_, rfl⟩
    rw [Hn.out, ← Hc.out, w64_byte]
    rfl
  · have hb : ((s.size : Int) == 1) = false := by simp; omega
    have Hn := Lib.hid (nameB_other s h1)
    clear h1
    go_enter Try.func22, Try.ntmps22
    go_wp2_with fail
    go_ret
    exact ⟨by rw [Hn.out]; rfl, rfl⟩

theorem volB_bad (nm : ByteArray) (bs : List Int) (k : Nat) (hk : k < bs.length) (h : blkB (bth bs k) = false) : volB ⟨nm, bs⟩ = false := by
  have : bs.all blkB = false := by
    rw [List.all_eq_false]
    exact ⟨bth bs k, by rw [bth_get _ _ hk]; exact List.getElem_mem hk, by simp [h]⟩
  simp [volB, this]

theorem take_blk (bs : List Int) (k : Nat) (hk : k < bs.length) : bs.take (k + 1) = bs.take k ++ [bth bs k] := by
  rw [List.take_succ_eq_append_getElem hk, bth_get _ _ hk]

theorem all_blk (bs : List Int) (k : Nat) (hk : k < bs.length) (h : (bs.take k).all blkB = true) (h2 : blkB (bth bs k) = true) : (bs.take (k + 1)).all blkB = true := by
  rw [take_blk _ _ hk, List.all_append, h]; simp [h2]

set_option maxHeartbeats 800000 in
theorem volOkS_any (nm : ByteArray) (a : Option Addr) (n c : Nat) (bs : List Int) (w : World) (hs : nm.size ≤ maxLen) (hx : Ints w a bs) (hn : bs.length = n) (hn1 : n ≤ 2000000) :
    Calls Try.prog 10 #[.agg #[.string nm, .slice a n c]] w fun e w' => e = .returned (.bool (volB ⟨nm, bs⟩)) ∧ Below w.heap.size w w' := by
  have Hx := Lib.hid hx
  have Hn := Lib.hid hn
  have HN := Lib.hid (fun W => l3Name_any nm W hs)
  clear hx hn
  go_enter Try.func10, Try.ntmps10
  go_wp2_with fail
  go_loop [3] (fun i => ∃ k : Nat, k ≤ n ∧ i = .int .i64 (k : Int) ∧ (bs.take k).all blkB = true) (fun i => n - (intOf i).toNat)
  case atStart => exact ⟨0, by omega, rfl, rfl⟩
  case round =>
    obtain ⟨k, hk, rfl, hall⟩ := hrel
    have Hall := Lib.hid hall
    clear hall
    by_cases hlt : k < n
    · obtain ⟨g, off, rfl, hi⟩ := ints_at Hx.out k (by rw [Hn.out]; exact hlt)
      have hl := ints_lt hi (by rw [Hn.out]; omega)
      have hc := hi k (by rw [Hn.out]; exact hlt)
      have hc2 := (World.cell?_of_block (w := w) (a := ⟨g, off + k, none⟩) (heap_alloc_old w (.cells #[.string nm, .slice (some ⟨g, off, none⟩) n c] 25) hl)).trans hc
      have Hbad := Lib.hid (volB_bad nm bs k (by rw [Hn.out]; exact hlt))
      have Hgood := Lib.hid (all_blk bs k (by rw [Hn.out]; exact hlt) Hall.out)
      have Hblk : Hid (blkB (bth bs k) = (decide (0 ≤ bth bs k) && decide (bth bs k ≤ 8))) := Lib.hid rfl
      obtain ⟨b, hb⟩ : ∃ b, bth bs k = b := ⟨_, rfl⟩
      rw [hb] at hc hc2 Hbad Hgood Hblk
      clear hb hi
      obtain ⟨q, hq⟩ : ∃ q, blkB b = q := ⟨_, rfl⟩
      rw [hq] at Hbad Hgood Hblk
      clear hq
      cases q
      · have HB := Lib.hid (Hbad.out rfl)
        clear Hbad Hgood
        go_wp2_with (go_at_call 20; refine (l6In_any _ _ _ _).mono ?_; rw [← Hblk.out]; rintro e w' ⟨rfl, rfl⟩)
        go_ret
        exact ⟨by rw [HB.out]; rfl, (Below.refl _ _).alloc (Nat.le_refl _) _⟩
      · have HG := Lib.hid (Hgood.out rfl)
        clear Hbad Hgood
        go_wp2_with (go_at_call 20; refine (l6In_any _ _ _ _).mono ?_; rw [← Hblk.out]; rintro e w' ⟨rfl, rfl⟩)
        go_round
        case rel => exact ⟨k + 1, by omega, by go_num, HG.out⟩
        case measure => simp [intOf]; omega
    · obtain rfl : k = n := by omega
      have Hv : Hid (volB ⟨nm, bs⟩ = (nameB nm.data.toList && (decide ((1 : Int) ≤ (k : Int)) && decide ((k : Int) ≤ 6)))) := Lib.hid (by
        have := Hall.out
        rw [List.take_of_length_le (by rw [Hn.out]; omega)] at this
        simp only [volB, this, Hn.out, Bool.true_and]
        congr 1
        congr 1
        · simp only [decide_eq_decide]; omega
        · simp only [decide_eq_decide]; omega)
      obtain ⟨q, hq⟩ : ∃ q, nameB nm.data.toList = q := ⟨_, rfl⟩
      rw [hq] at HN Hv
      clear hq
      cases q
      · go_wp2_with (first | (go_at_call 20; refine (l6In_any _ _ _ _).mono ?_; rintro e w' ⟨rfl, rfl⟩) | (go_at_call 22; refine (HN.out _).mono ?_; rintro e w' ⟨rfl, rfl⟩))
        go_ret
        exact ⟨by rw [Hv.out]; rfl, (Below.refl _ _).alloc (Nat.le_refl _) _⟩
      · go_wp2_with (first | (go_at_call 20; refine (l6In_any _ _ _ _).mono ?_; rintro e w' ⟨rfl, rfl⟩) | (go_at_call 22; refine (HN.out _).mono ?_; rintro e w' ⟨rfl, rfl⟩))
        go_ret
        exact ⟨by rw [Hv.out]; rfl, (Below.refl _ _).alloc (Nat.le_refl _) _⟩

/-- How often a place stands in the first k blocks. -/
def cntI (bs : List Int) (p : Int) : Nat → Int
  | 0 => 0
  | k + 1 => cntI bs p k + if (bth bs k == p) = true then 1 else 0

theorem cntI_take (bs : List Int) (p : Int) : ∀ k, k ≤ bs.length → cntI bs p k = ((bs.take k).count p : Nat)
  | 0, _ => by simp [cntI]
  | k + 1, h => by
    rw [cntI, cntI_take bs p k (by omega), take_blk _ _ (by omega), List.count_append, List.count_singleton]
    split <;> simp

theorem cntI_uses (nm : ByteArray) (bs : List Int) (p : Int) : cntI bs p bs.length = usesV ⟨nm, bs⟩ p := by
  rw [cntI_take bs p _ (Nat.le_refl _), List.take_length]; rfl

theorem cntI_range (bs : List Int) (p : Int) (k : Nat) : 0 ≤ cntI bs p k ∧ cntI bs p k ≤ k := by
  induction k with
  | zero => simp [cntI]
  | succ k ih => simp only [cntI]; split <;> omega

set_option maxHeartbeats 800000 in
theorem l3Uses_any (nm : ByteArray) (a : Option Addr) (n c : Nat) (bs : List Int) (p : Int) (w : World) (hx : Ints w a bs) (hn : bs.length = n) (hn1 : n ≤ 2000000) :
    Calls Try.prog 21 #[.agg #[.string nm, .slice a n c], .int .i64 p] w fun e w' => e = .returned (.int .i64 (usesV ⟨nm, bs⟩ p)) ∧ Below w.heap.size w w' := by
  have Hx := Lib.hid hx
  have Hn := Lib.hid hn
  clear hx hn
  go_enter Try.func21, Try.ntmps21
  go_wp2_with fail
  go_loop [5, 6] (fun t i => ∃ k : Nat, k ≤ n ∧ i = .int .i64 (k : Int) ∧ t = .int .i64 (cntI bs p k)) (fun _ i => n - (intOf i).toNat)
  case atStart => exact ⟨0, by omega, rfl, rfl⟩
  case round =>
    obtain ⟨k, hk, rfl, rfl⟩ := hrel
    by_cases hlt : k < n
    · obtain ⟨g, off, rfl, hi⟩ := ints_at Hx.out k (by rw [Hn.out]; exact hlt)
      have hl := ints_lt hi (by rw [Hn.out]; omega)
      have hc := hi k (by rw [Hn.out]; exact hlt)
      have hc2 := (World.cell?_of_block (w := w) (a := ⟨g, off + k, none⟩) (heap_alloc_old w (.cells #[.string nm, .slice (some ⟨g, off, none⟩) n c] 25) hl)).trans hc
      have hr := cntI_range bs p k
      have Hstep : Hid (cntI bs p (k + 1) = cntI bs p k + if (bth bs k == p) = true then 1 else 0) := Lib.hid rfl
      obtain ⟨b, hb⟩ : ∃ b, bth bs k = b := ⟨_, rfl⟩
      rw [hb] at hc hc2 Hstep
      clear hb hi
      cases he : (b == p)
      · rw [he] at Hstep
        go_wp2_with fail
        go_round
        case rel => exact ⟨k + 1, by omega, by go_num, by rw [Hstep.out]; simp⟩
        case measure => simp [intOf]; omega
      · rw [he] at Hstep
        go_wp2_with fail
        go_round
        case rel => exact ⟨k + 1, by omega, by go_num, by rw [Hstep.out]; simp⟩
        case measure => simp [intOf]; omega
    · obtain rfl : k = n := by omega
      go_wp2_with fail
      go_ret
      exact ⟨ret_int (by rw [← cntI_uses nm bs p, Hn.out]), (Below.refl _ _).alloc (Nat.le_refl _) _⟩

/-- VolUses. -/
def usesF (v : Vo) (p : Int) : Int := if (volB v && (decide (1 ≤ p) && decide (p ≤ 8))) = true then usesV v p else 0

set_option maxHeartbeats 800000 in
theorem volUsesS_any (nm : ByteArray) (a : Option Addr) (n c : Nat) (bs : List Int) (p : Int) (w : World) (hs : nm.size ≤ maxLen) (hx : Ints w a bs) (hn : bs.length = n) (hn1 : n ≤ 2000000) :
    Calls Try.prog 9 #[.agg #[.string nm, .slice a n c], .int .i64 p] w fun e w' => e = .returned (.int .i64 (usesF ⟨nm, bs⟩ p)) ∧ Below w.heap.size w w' := by
  have hb0 : Below w.heap.size w (w.alloc (.cells #[.string nm, .slice a n c] 25)) := (Below.refl _ _).alloc (Nat.le_refl _) _
  have HO := Lib.hid (volOkS_any nm a n c bs (w.alloc (.cells #[.string nm, .slice a n c] 25)) hs (ints_below hx hb0 (Nat.le_refl _)) hn hn1)
  have HU := Lib.hid (fun W (hb : Below w.heap.size w W) => l3Uses_any nm a n c bs p W (ints_below hx hb (Nat.le_refl _)) hn hn1)
  have Hu : Hid (usesF ⟨nm, bs⟩ p = if (volB ⟨nm, bs⟩ && (decide (1 ≤ p) && decide (p ≤ 8))) = true then usesV ⟨nm, bs⟩ p else 0) := Lib.hid rfl
  have HB0 := Lib.hid hb0
  clear hx hn hb0
  obtain ⟨q, hq⟩ : ∃ q, volB ⟨nm, bs⟩ = q := ⟨_, rfl⟩
  rw [hq] at HO Hu
  clear hq
  obtain ⟨u, hu⟩ : ∃ u, usesV ⟨nm, bs⟩ p = u := ⟨_, rfl⟩
  rw [hu] at HU Hu
  clear hu
  have HI : Hid (∀ W, Calls Try.prog 20 #[.int .i64 p, .int .i64 1, .int .i64 8] W fun e w' => e = .returned (.bool (decide (1 ≤ p) && decide (p ≤ 8))) ∧ w' = W) := Lib.hid (fun W => l6In_any p 1 8 W)
  obtain ⟨r, hr⟩ : ∃ r, (decide (1 ≤ p) && decide (p ≤ 8)) = r := ⟨_, rfl⟩
  rw [hr] at HI Hu
  clear hr
  have bel : ∀ w1, Below (w.heap.size + 1) (w.alloc (.cells #[.string nm, .slice a n c] 25)) w1 → Below w.heap.size w w1 := fun w1 hb => HB0.out.trans (hb.mono (by omega))
  have HBL := Lib.hid bel
  have hcell : ∀ w1, Below (w.heap.size + 1) (w.alloc (.cells #[.string nm, .slice a n c] 25)) w1 → w1.cell? ⟨w.heap.size, 0, none⟩ = some (.string nm) ∧ w1.cell? ⟨w.heap.size, 1, none⟩ = some (.slice a n c) := fun w1 hb => by
    have h := heap_alloc_new w (.cells #[.string nm, .slice a n c] 25)
    exact ⟨(hb.cell (p := ⟨w.heap.size, 0, none⟩) (by simp)).trans (by rw [cell_of_row _ _ _ _ _ _ h]; rfl), (hb.cell (p := ⟨w.heap.size, 1, none⟩) (by simp)).trans (by rw [cell_of_row _ _ _ _ _ _ h]; rfl)⟩
  have HC := Lib.hid hcell
  clear bel hcell
  cases q
  · go_enter Try.func9, Try.ntmps9
    go_wp2_with fail
    refine HO.out.mono ?_
    rintro e w1 ⟨rfl, hb1⟩
    have hB := HBL.out w1 (by simpa using hb1)
    go_wp2_with fail
    go_ret
    exact ⟨ret_int (by rw [Hu.out]; rfl), hB⟩
  · cases r
    · go_enter Try.func9, Try.ntmps9
      go_wp2_with fail
      refine HO.out.mono ?_
      rintro e w1 ⟨rfl, hb1⟩
      have hB := HBL.out w1 (by simpa using hb1)
      go_wp2_with (go_at_call 20; refine (HI.out _).mono ?_; rintro e w' ⟨rfl, rfl⟩)
      go_ret
      exact ⟨ret_int (by rw [Hu.out]; rfl), hB⟩
    · go_enter Try.func9, Try.ntmps9
      go_wp2_with fail
      refine HO.out.mono ?_
      rintro e w1 ⟨rfl, hb1⟩
      have hB := HBL.out w1 (by simpa using hb1)
      obtain ⟨hc0, hc1⟩ := HC.out w1 (by simpa using hb1)
      have HU1 := Lib.hid (HU.out w1 hB)
      go_wp2_with (go_at_call 20; refine (HI.out _).mono ?_; rintro e w' ⟨rfl, rfl⟩)
      refine HU1.out.mono ?_
      rintro e w2 ⟨rfl, hb2⟩
      have hB2 := hB.trans (hb2.mono hB.size)
      go_wp2_with fail
      go_ret
      exact ⟨ret_int (by rw [Hu.out]; rfl), hB2⟩

end Go.Proofs.Ytgogokahpmljbaa
