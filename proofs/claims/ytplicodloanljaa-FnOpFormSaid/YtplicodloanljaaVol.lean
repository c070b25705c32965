/- What the model's functions on disks answer. -/
import Derived.Test.YtplicodloanljaaPoolOps
namespace Go.Proofs.Ytplicodloanljaa
open Go.RowKit
set_option linter.unusedVariables false
set_option maxRecDepth 100000

/-- The cells from (g, off) on hold the blocks bs. -/
def IntsAt (w : World) (g off : Nat) (bs : List Int) : Prop := ∀ i, i < bs.length → w.cell? ⟨g, off + i, none⟩ = some (.int .i64 (bth bs i))

def Ints (w : World) (a : Option Addr) (bs : List Int) : Prop := bs = [] ∨ ∃ g off, a = some ⟨g, off, none⟩ ∧ IntsAt w g off bs

theorem ints_lt {w : World} {g off : Nat} {bs : List Int} (h : IntsAt w g off bs) (hn : 0 < bs.length) : g < w.heap.size :=
  World.block_lt_of_cell? w ⟨g, off + 0, none⟩ (h 0 hn)

theorem intsAt_below {w w' : World} {B g off : Nat} {bs : List Int} (h : IntsAt w g off bs) (hb : Below B w w') (hg : g < B) : IntsAt w' g off bs :=
  fun i hi => (hb.cell (p := ⟨g, off + i, none⟩) hg).trans (h i hi)

theorem ints_below {w w' : World} {B : Nat} {a : Option Addr} {bs : List Int} (h : Ints w a bs) (hb : Below B w w') (hB : w.heap.size ≤ B) : Ints w' a bs := by
  rcases h with h | ⟨g, off, e, hx⟩
  · exact .inl h
  · by_cases hl : 0 < bs.length
    · exact .inr ⟨g, off, e, intsAt_below hx hb (by have := ints_lt hx hl; omega)⟩
    · exact .inl (List.eq_nil_of_length_eq_zero (by omega))

theorem ints_at {w : World} {a : Option Addr} {bs : List Int} (h : Ints w a bs) (i : Nat) (hi : i < bs.length) : ∃ g off, a = some ⟨g, off, none⟩ ∧ IntsAt w g off bs := by
  rcases h with rfl | h
  · simp at hi
  · exact h

/-- A slice of blocks. -/
def Intv (w : World) (v : Value) (bs : List Int) : Prop := ∃ a n c, v = .slice a n c ∧ bs.length = n ∧ n ≤ 2000000 ∧ Ints w a bs

theorem intv_below {w w' : World} {B : Nat} {v : Value} {bs : List Int} (h : Intv w v bs) (hb : Below B w w') (hB : w.heap.size ≤ B) : Intv w' v bs := by
  obtain ⟨a, n, c, hv, hn, hn1, hs⟩ := h
  exact ⟨a, n, c, hv, hn, hn1, ints_below hs hb hB⟩

theorem nameB_one (s : ByteArray) (h : s.size = 1) : nameB s.data.toList = (decide (65 ≤ ((s[0]'(by omega)).toNat : Int)) && decide (((s[0]'(by omega)).toNat : Int) ≤ 68)) := by
  have e : s.data.toList = [s[0]'(by omega)] := by
    apply List.ext_getElem
    · simpa using h
    · intro i h1 h2
      have : i = 0 := by simp at h2; omega
      subst this; rfl
  rw [e]
  simp only [nameB]
  congr 1
  · simp only [decide_eq_decide]; omega
  · simp only [decide_eq_decide]; omega

theorem nameB_other (s : ByteArray) (h : s.size ≠ 1) : nameB s.data.toList = false := by
  have hl : s.data.toList.length = s.size := by simp
  match hh : s.data.toList with
  | [] => rfl
  | [c] => rw [hh] at hl; simp at hl; omega
  | c :: d :: r => rfl

set_option maxHeartbeats 400000 in
theorem l3Name_any (s : ByteArray) (w : World) (hs : s.size ≤ maxLen) :
    Calls Try.prog 15 #[.string s] w fun e w' => e = .returned (.bool (nameB s.data.toList)) ∧ w' = w := by
  unfold maxLen at hs
  by_cases h1 : s.size = 1
  · have Hn := Lib.hid (nameB_one s h1)
    have h0 : 0 < s.size := by omega
    have hb : ((s.size : Int) == 1) = true := by simp; omega
    obtain ⟨c, hc⟩ : ∃ c, s[0]'(by omega) = c := ⟨_, rfl⟩
    rw [hc] at Hn
    have hc' : s[0]? = some c := by rw [getElem?_pos s 0 h0, hc]
    have hw := w64_byte c
    have Hc := Lib.hid hc
    clear hc h1
    go_enter Try.func15, Try.ntmps15
    go_wp2_with (go_at_call 16; refine (l6In_any _ _ _ _).mono ?_; rintro e w' ⟨rfl, rfl⟩)
    go_ret
    refine ⟨?_, rfl⟩
    rw [Hn.out, ← Hc.out, w64_byte]
    rfl
  · have hb : ((s.size : Int) == 1) = false := by simp; omega
    have Hn := Lib.hid (nameB_other s h1)
    clear h1
    go_enter Try.func15, Try.ntmps15
    go_wp2_with fail
    go_ret
    exact ⟨by rw [Hn.out]; rfl, rfl⟩

theorem volB_bad (nm : ByteArray) (bs : List Int) (k : Nat) (hk : k < bs.length) (h : blkB (bth bs k) = false) : volB ⟨nm, bs⟩ = false := by
  have : bs.all blkB = false := by
    rw [List.all_eq_false]
    exact ⟨bth bs k, by rw [bth_get _ _ hk]; exact List.getElem_mem hk, by simp [h]⟩
  simp [volB, this]

theorem take_blk (bs : List Int) (k : Nat) (hk : k < bs.length) : bs.take (k + 1) = bs.take k ++ [bth bs k] := by
  rw [List.take_succ_eq_append_getElem hk, bth_get _ _ hk]

theorem all_blk (bs : List Int) (k : Nat) (hk : k < bs.length) (h : (bs.take k).all blkB = true) (h2 : blkB (bth bs k) = true) : (bs.take (k + 1)).all blkB = true := by
  rw [take_blk _ _ hk, List.all_append, h]; simp [h2]

/-- How often a place stands in the first k blocks. -/
def cntI (bs : List Int) (p : Int) : Nat → Int
  | 0 => 0
  | k + 1 => cntI bs p k + if (bth bs k == p) = true then 1 else 0

theorem cntI_take (bs : List Int) (p : Int) : ∀ k, k ≤ bs.length → cntI bs p k = ((bs.take k).count p : Nat)
  | 0, _ => by simp [cntI]
  | k + 1, h => by
    rw [cntI, cntI_take bs p k (by omega), take_blk _ _ (by omega), List.count_append, List.count_singleton]
    split <;> simp

theorem cntI_uses (nm : ByteArray) (bs : List Int) (p : Int) : cntI bs p bs.length = usesV ⟨nm, bs⟩ p := by
  rw [cntI_take bs p _ (Nat.le_refl _), List.take_length]; rfl

theorem cntI_range (bs : List Int) (p : Int) (k : Nat) : 0 ≤ cntI bs p k ∧ cntI bs p k ≤ k := by
  induction k with
  | zero => simp [cntI]
  | succ k ih => simp only [cntI]; split <;> omega

/-- VolUses. -/
def usesF (v : Vo) (p : Int) : Int := if (volB v && (decide (1 ≤ p) && decide (p ≤ 8))) = true then usesV v p else 0

end Go.Proofs.Ytplicodloanljaa
