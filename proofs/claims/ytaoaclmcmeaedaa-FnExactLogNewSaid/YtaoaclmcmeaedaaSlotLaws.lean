/- What the laws' own helpers on slots answer. What the laws' marks on slots do: each field is written its own mark, and read back. Slices of slots that lie in a range of blocks of the call's own; the laws' copies and sizes. A slice of the laws' own slots that comes in. -/
import Derived.Test.YtaoaclmcmeaedaaStore
import Derived.StillTailTactics
import Derived.Laws.IdiomStrings
import Derived.Deep.RegionHeld3
import Derived.Deep.SlicePairs
import Derived.ChangeArms
namespace Go.Proofs.Ytaoaclmcmeaedaa
open Go.RowKit

def slV (x : Sl) : Value := .agg #[.string x.text, .int .i64 x.uses]

/-- Two slots are the same. -/
def sameSl (x y : Sl) : Bool := x.text.toList == y.text.toList && x.uses == y.uses

set_option maxHeartbeats 400000 in
theorem eqSlot_any (x y : Sl) (w : World) :
    Calls Try.prog 31 #[.agg #[.string x.text, .int .i64 x.uses], .agg #[.string y.text, .int .i64 y.uses]] w fun e w' => e = .returned (.bool (sameSl x y)) ∧ Below w.heap.size w w' := by
  obtain ⟨t1, u1⟩ := x
  obtain ⟨t2, u2⟩ := y
  simp only [sameSl]
  have hb : ∀ o1 o2, Below w.heap.size w ((w.alloc o1).alloc o2) := fun o1 o2 => ((Below.refl _ _).alloc (Nat.le_refl _) _).alloc (by simp) _
  have HB := Lib.hid hb
  clear hb
  cases h1 : (t1.toList == t2.toList)
  · go_enter Try.func31, Try.ntmps31
    go_wp2_with fail
    go_ret
    exact ⟨rfl, HB.out _ _⟩
  · cases h2 : (u1 == u2)
    · go_enter Try.func31, Try.ntmps31
      go_wp2_with fail
      go_ret
      exact ⟨rfl, HB.out _ _⟩
    · go_enter Try.func31, Try.ntmps31
      go_wp2_with fail
      go_ret
      exact ⟨rfl, HB.out _ _⟩

def sameTo (xs ys : List Sl) (k : Nat) : Bool := (List.range k).all fun i => sameSl (nth xs i) (nth ys i)

def sameSls (xs ys : List Sl) : Bool := decide (xs.length = ys.length) && sameTo xs ys xs.length

set_option maxRecDepth 100000 in
set_option maxHeartbeats 800000 in
theorem eqSlotS_some (g1 o1 g2 o2 n c1 c2 : Nat) (xs ys : List Sl) (w : World) (hx : Slots w g1 o1 xs) (hy : Slots w g2 o2 ys) (hn : xs.length = n) (hm : ys.length = n) (h0 : 0 < n) (hn1 : n ≤ 2000000) :
    Calls Try.prog 20 #[.slice (some ⟨g1, o1, none⟩) n c1, .slice (some ⟨g2, o2, none⟩) n c2] w fun e w' => e = .returned (.bool (sameTo xs ys n)) ∧ Below w.heap.size w w' := by
  have Hx := Lib.hid hx
  have Hy := Lib.hid hy
  have Hn := Lib.hid hn
  have Hm := Lib.hid hm
  have l1 := hx.lt (by omega)
  have l2 := hy.lt (by omega)
  clear hx hy hn hm
  go_enter Try.func20, Try.ntmps20
  go_wp2_with fail
  go_loopw [5] (fun i wr => ∃ k : Nat, k ≤ n ∧ i = .int .i64 (k : Int) ∧ sameTo xs ys k = true ∧ Below w.heap.size w wr) (fun i _ => n - (intOf i).toNat)
  case atStart => exact ⟨0, by omega, rfl, rfl, Below.refl _ _⟩
  case round =>
    obtain ⟨k, hk, rfl, hs, hB⟩ := hrel
    have Hs := Lib.hid hs
    clear hs
    by_cases hlt : k < n
    · obtain ⟨ha, hb⟩ := Hx.out k (by rw [Hn.out]; exact hlt)
      obtain ⟨hc, hd⟩ := Hy.out k (by rw [Hm.out]; exact hlt)
      rw [← hB.cell (p := ⟨g1, o1 + k * 2, none⟩) l1] at ha
      rw [← hB.cell (p := ⟨g1, o1 + k * 2 + 1, none⟩) l1] at hb
      rw [← hB.cell (p := ⟨g2, o2 + k * 2, none⟩) l2] at hc
      rw [← hB.cell (p := ⟨g2, o2 + k * 2 + 1, none⟩) l2] at hd
      have hC := eqSlot_any (nth xs k) (nth ys k)
      have HC := Lib.hid hC
      clear hC
      go_wp2_with fail
      go_still_tail 8, (by kernel_rfl)
      have hB2 := hB.drew
      change wpList _ _ _ _ _ wr.drew
      generalize wr.drew = w2 at *
      go_wp2_with fail
      refine (HC.out _).mono ?_
      rintro e w3 ⟨rfl, hb3⟩
      have hB3 := hB2.trans (hb3.mono hB2.size)
      cases he : sameSl (nth xs k) (nth ys k)
      · have Hq : Hid (sameTo xs ys n = false) := Lib.hid (all_range_no _ n k hlt he)
        go_wp2_with fail
        go_ret
        exact ⟨by rw [Hq.out]; rfl, hB3⟩
      · have Hq : Hid (sameTo xs ys (k + 1) = true) := Lib.hid (all_range_succ _ k Hs.out he)
        go_wp2_with fail
        go_roundw
        case rel => exact ⟨k + 1, by omega, by go_num, Hq.out, hB3⟩
        case measure => simp [intOf]; omega
    · obtain rfl : k = n := by omega
      go_wp2_with fail
      go_ret
      exact ⟨by rw [Hs.out]; rfl, hB⟩

/-- A slice of slots, nil and empty ones too. -/
def Slv (w : World) (v : Value) (xs : List Sl) : Prop := ∃ a n c, v = .slice a n c ∧ xs.length = n ∧ n ≤ 2000000 ∧ Sls w a xs

theorem NewSl.slv {B : Nat} {w : World} {v : Value} {xs : List Sl} (h : NewSl B w v xs) (hl : xs.length ≤ 2000000) : Slv w v xs := by
  rcases h with ⟨rfl, a, c, rfl⟩ | ⟨g, cap, rfl, _, _, _, hs⟩
  · exact ⟨a, 0, c, rfl, rfl, by omega, .inl rfl⟩
  · exact ⟨_, _, _, rfl, rfl, hl, .inr ⟨g, 0, rfl, hs.1⟩⟩

theorem Sls.below {w w' : World} {B : Nat} {a : Option Addr} {xs : List Sl} (h : Sls w a xs) (hb : Below B w w') (hB : w.heap.size ≤ B) : Sls w' a xs := by
  rcases h with h | ⟨g, off, e, hx⟩
  · exact .inl h
  · by_cases hl : 0 < xs.length
    · exact .inr ⟨g, off, e, hx.below hb (by have := hx.lt hl; omega)⟩
    · exact .inl (List.eq_nil_of_length_eq_zero (by omega))

theorem Slv.below {w w' : World} {B : Nat} {v : Value} {xs : List Sl} (h : Slv w v xs) (hb : Below B w w') (hB : w.heap.size ≤ B) : Slv w' v xs := by
  obtain ⟨a, n, c, hv, hn, hn1, hs⟩ := h
  exact ⟨a, n, c, hv, hn, hn1, hs.below hb hB⟩

theorem sameSls_len (xs ys : List Sl) (h : xs.length ≠ ys.length) : sameSls xs ys = false := by simp [sameSls, h]

set_option maxHeartbeats 400000 in
theorem eqSlotS_any (v1 v2 : Value) (xs ys : List Sl) (w : World) (hx : Slv w v1 xs) (hy : Slv w v2 ys) :
    Calls Try.prog 20 #[v1, v2] w fun e w' => e = .returned (.bool (sameSls xs ys)) ∧ Below w.heap.size w w' := by
  obtain ⟨a1, n1, c1, rfl, hn1, hm1, hs1⟩ := hx
  obtain ⟨a2, n2, c2, rfl, hn2, hm2, hs2⟩ := hy
  by_cases he : n1 = n2
  · subst he
    have hq : sameSls xs ys = sameTo xs ys n1 := by simp [sameSls, hn1, hn2]
    rw [hq]
    rcases hs1 with rfl | ⟨g1, o1, rfl, hs1⟩
    · obtain rfl : 0 = n1 := hn1
      clear hs2 hn2 hq
      go_enter Try.func20, Try.ntmps20
      go_wp2_with fail
      go_loop [5] (fun i' => i' = .int .i64 0) (fun _ => 0)
      case atStart => rfl
      case round =>
        obtain rfl := hrel
        go_wp2_with fail
        go_ret
        exact ⟨rfl, Below.refl _ _⟩
    · rcases hs2 with rfl | ⟨g2, o2, rfl, hs2⟩
      · obtain rfl : 0 = n1 := hn2
        clear hs1 hn1 hq
        go_enter Try.func20, Try.ntmps20
        go_wp2_with fail
        go_loop [5] (fun i' => i' = .int .i64 0) (fun _ => 0)
        case atStart => rfl
        case round =>
          obtain rfl := hrel
          go_wp2_with fail
          go_ret
          exact ⟨rfl, Below.refl _ _⟩
      · by_cases h0 : 0 < n1
        · exact eqSlotS_some g1 o1 g2 o2 n1 c1 c2 xs ys w hs1 hs2 hn1 hn2 h0 hm1
        · obtain rfl : n1 = 0 := by omega
          clear hs1 hs2 hn1 hn2 hq
          go_enter Try.func20, Try.ntmps20
          go_wp2_with fail
          go_loop [5] (fun i' => i' = .int .i64 0) (fun _ => 0)
          case atStart => rfl
          case round =>
            obtain rfl := hrel
            go_wp2_with fail
            go_ret
            exact ⟨rfl, Below.refl _ _⟩
  · rw [sameSls_len xs ys (by omega)]
    have he2 : ((n1 : Int) != n2) = true := by simp; omega
    clear hs1 hs2 hn1 hn2
    go_enter Try.func20, Try.ntmps20
    go_wp2_with fail
    go_ret
    exact ⟨rfl, Below.refl _ _⟩

/-- The last digit of a number, as a text. -/
def dgt (q : Nat) : ByteArray := ⟨#[48 + UInt8.ofNat (q % 10)]⟩

def mtGo : Nat → Nat → ByteArray → ByteArray
  | 0, _, out => out
  | f + 1, q, out => if q = 0 then out else mtGo f (q / 10) (dgt q ++ out)

/-- The mark of a number. -/
def mt (k : Nat) : ByteArray := if k = 0 then ⟨#[109, 48]⟩ else ⟨#[109]⟩ ++ mtGo (k + 1) k ⟨#[]⟩

theorem mtGo_zero (f : Nat) (out : ByteArray) : mtGo f 0 out = out := by cases f <;> simp [mtGo]

theorem mtGo_more (f q : Nat) (out : ByteArray) (hq : 0 < q) : mtGo (f + 1) q out = mtGo f (q / 10) (dgt q ++ out) := by
  rw [mtGo, if_neg (by omega)]

theorem conv_one (w : World) (n : Int) (h0 : 0 ≤ n) (h1 : n ≤ 255) :
    (convert 85 9 (.slice (some ⟨w.heap.size, 0, none⟩) 1 1)).run Try.prog (w.alloc (.cells #[.int .u8 n] 5)) = .ok (.string ⟨#[UInt8.ofNat n.toNat]⟩) (w.alloc (.cells #[.int .u8 n] 5)) := by
  have h := run_convert_bytes_back (P := Try.prog) (w.alloc (.cells #[.int .u8 n] 5)) 85 9 5 ⟨w.heap.size, 0, none⟩ 1 [UInt8.ofNat n.toNat] Try.underlying85 Try.underlying5 Try.underlying9 (by
    intro j hj
    obtain rfl : j = 0 := by simpa using hj
    simp [Addr.add]
    omega)
  exact h

set_option maxHeartbeats 800000 in
theorem markText_any (k : Nat) (w : World) (hk : k ≤ 1000000000) :
    Calls Try.prog 25 #[.int .i64 (k : Int)] w fun e w' => e = .returned (.string (mt k)) ∧ Below w.heap.size w w' := by
  rcases Nat.eq_zero_or_pos k with rfl | h0
  · go_enter Try.func25, Try.ntmps25
    go_wp2_with fail
    go_ret
    exact ⟨rfl, Below.refl _ _⟩
  · have Hm : Hid (mt k = ⟨#[109]⟩ ++ mtGo (k + 1) k ⟨#[]⟩) := Lib.hid (by rw [mt, if_neg (by omega)])
    go_enter Try.func25, Try.ntmps25
    go_wp2_with fail
    go_loopw [0, 3] (fun k' out wr => ∃ (f q : Nat) (s : ByteArray), k' = .int .i64 (q : Int) ∧ out = .string s ∧ s.size + q ≤ 1000000000 ∧ q < f ∧ mtGo f q s = mtGo (k + 1) k ⟨#[]⟩ ∧ Below w.heap.size w wr) (fun k' _ _ => (intOf k').toNat)
    case atStart => exact ⟨k + 1, k, ⟨#[]⟩, rfl, rfl, by show 0 + k ≤ _; omega, by omega, rfl, Below.refl _ _⟩
    case round =>
      obtain ⟨f, q, s, rfl, rfl, hs, hf, hT, hB⟩ := hrel
      have HT := Lib.hid hT
      clear hT
      by_cases hz : 0 < q
      · obtain ⟨f', rfl⟩ : ∃ f', f = f' + 1 := ⟨f - 1, by omega⟩
        have HT2 := Lib.hid ((mtGo_more f' q s hz).symm.trans HT.out)
        have hd1 : 0 ≤ (q : Int) % 10 := Int.emod_nonneg _ (by omega)
        have hd2 : (q : Int) % 10 < 10 := Int.emod_lt_of_pos _ (by omega)
        have hcv := conv_one wr (48 + (q : Int) % 10) (by omega) (by omega)
        go_wp2_with fail
        go_roundw
        case rel => exact ⟨f', q / 10, dgt q ++ s, by push_cast; rfl, by unfold dgt; rfl, by rw [ByteArray.size_append]; show 1 + s.size + _ ≤ _; omega, by omega, HT2.out, hB.alloc hB.size _⟩
        case measure => simp [intOf]; omega
      · obtain rfl : q = 0 := by omega
        have Hs : Hid (s = mtGo (k + 1) k ⟨#[]⟩) := Lib.hid (by rw [← HT.out, mtGo_zero])
        go_wp2_with fail
        go_ret
        exact ⟨by rw [Hm.out, ← Hs.out]; rfl, hB⟩

end Go.Proofs.Ytaoaclmcmeaedaa

namespace Go.Proofs.Ytaoaclmcmeaedaa
open Go.RowKit
set_option maxRecDepth 100000

def mark (k i : Nat) : Sl := ⟨mt (k + 2 * i), ((k + 2 * i + 1 : Nat) : Int)⟩

set_option maxHeartbeats 800000 in
theorem markSlotS_some (g off n cap k : Nat) (xs : List Sl) (w : World) (hx : SlotsW w g off xs) (hn : xs.length = n) (h0 : 0 < n) (hn1 : n ≤ 2000000) (hk : k ≤ 1000000) :
    Calls Try.prog 23 #[.slice (some ⟨g, off, none⟩) n cap, .int .i64 (k : Int)] w fun e w' => e = .returned (.int .i64 ((k + 2 * n : Nat) : Int)) ∧
      (∃ ys, SlotsW w' g off ys ∧ ys.length = n ∧ ∀ i, i < n → nth ys i = mark k i) ∧ w.grownBy w' (some g) := by
  have Hx := Lib.hid hx
  have Hn := Lib.hid hn
  have l1 := hx.1.lt (by omega)
  clear hx hn
  go_enter Try.func23, Try.ntmps23
  go_wp2_with fail
  go_loopw [1, 5] (fun k' i wr => ∃ j : Nat, j ≤ n ∧ i = .int .i64 (j : Int) ∧ k' = .int .i64 ((k + 2 * j : Nat) : Int) ∧ (∃ ys, SlotsW wr g off ys ∧ ys.length = n ∧ ∀ i, i < j → nth ys i = mark k i) ∧ w.grownBy wr (some g)) (fun _ i _ => n - (intOf i).toNat)
  case atStart => exact ⟨0, by omega, rfl, rfl, ⟨xs, Hx.out, Hn.out, fun i hi => by omega⟩, grownBy_refl _ _⟩
  case round =>
    obtain ⟨j, hj, rfl, rfl, ⟨ys, hs, hl, hm⟩, hg⟩ := hrel
    by_cases hlt : j < n
    · have Hs := Lib.hid hs
      have Hl := Lib.hid hl
      have Hm := Lib.hid hm
      have Hg := Lib.hid hg
      have hgl := hg.size
      clear hs hl hm hg
      go_wp2_with fail
      have hM := markText_any (k + 2 * j) wr (by omega)
      refine hM.mono ?_
      rintro e w2 ⟨rfl, hb⟩
      have hs2 : SlotsW w2 g off ys := ⟨Hs.out.1.below hb (by omega), fun o => (hb.frozen (p := ⟨g, o, none⟩) (by show g < wr.heap.size; omega)).trans (Hs.out.2 o)⟩
      obtain ⟨hc, hu⟩ := hs2.1 j (by rw [Hl.out]; exact hlt)
      have hf := hs2.2 (off + j * 2)
      have hfu := hs2.2 (off + j * 2 + 1)
      have H2 := Lib.hid (hs2.both j (by rw [Hl.out]; exact hlt) (mt (k + 2 * j)) ((k + 2 * j + 1 : Nat) : Int))
      have Hw : Hid (w.grownBy w2 (some g)) := Lib.hid (grownBy_trans Hg.out ⟨hb.os, hb.tape, hb.output, hb.size, fun q hq _ => hb.block q hq⟩)
      clear hM hs2 hb
      go_wp2_with fail
      go_roundw
      case rel =>
        refine ⟨j + 1, by omega, by go_num, by go_num, ⟨_, H2.out, by rw [List.length_set]; exact Hl.out, fun i hi => ?_⟩, grownBy_trans Hw.out (grownBy_trans (grownBy_setCell _ _ _) (grownBy_setCell _ _ _))⟩
        rw [nth_set _ _ _ _ (by rw [Hl.out]; exact hlt)]
        by_cases e : j = i
        · subst e; rw [if_pos rfl]; rfl
        · rw [if_neg e]; exact Hm.out i (by omega)
      case measure => simp [intOf]; omega
    · obtain rfl : j = n := by omega
      have Hs := Lib.hid hs
      have Hl := Lib.hid hl
      have Hm := Lib.hid hm
      have Hg := Lib.hid hg
      clear hs hl hm hg
      go_wp2_with fail
      go_ret
      exact ⟨rfl, ⟨ys, Hs.out, Hl.out, Hm.out⟩, Hg.out⟩

theorem held_step {w W w3 : World} {g o : Nat} {m : Value} (hS : W.cell? ⟨g, o, none⟩ = some m ∧ w.heap.size ≤ W.heap.size ∧ Below w.heap.size w W) (hb3 : Below W.heap.size W w3) (l : g < w.heap.size) :
    w3.cell? ⟨g, o, none⟩ = some m ∧ w.heap.size ≤ w3.heap.size ∧ Below w.heap.size w w3 :=
  ⟨(hb3.cell (p := ⟨g, o, none⟩) (by show g < _; have := hS.2.1; omega)).trans hS.1, Nat.le_trans hS.2.1 hb3.size, hS.2.2.trans (hb3.mono hS.2.1)⟩

set_option maxHeartbeats 800000 in
theorem heldSlotS_some (g off n cap k : Nat) (ys : List Sl) (w : World) (hx : Slots w g off ys) (hn : ys.length = n) (h0 : 0 < n) (hn1 : n ≤ 2000000) (hk : k ≤ 1000000) (hm : ∀ i, i < n → nth ys i = mark k i) :
    Calls Try.prog 26 #[.slice (some ⟨g, off, none⟩) n cap, .int .i64 (k : Int)] w fun e w' => e = .returned (.int .i64 ((k + 2 * n : Nat) : Int)) ∧ Below w.heap.size w w' := by
  have Hx := Lib.hid hx
  have Hn := Lib.hid hn
  have Hm := Lib.hid hm
  have l1 := hx.lt (by omega)
  clear hx hn hm
  go_enter Try.func26, Try.ntmps26
  go_wp2_with fail
  go_loopw [1, 5] (fun k' i wr => ∃ j : Nat, j ≤ n ∧ i = .int .i64 (j : Int) ∧ k' = .int .i64 ((k + 2 * j : Nat) : Int) ∧ Below w.heap.size w wr) (fun _ i _ => n - (intOf i).toNat)
  case atStart => exact ⟨0, by omega, rfl, rfl, Below.refl _ _⟩
  case round =>
    obtain ⟨j, hj, rfl, rfl, hB⟩ := hrel
    by_cases hlt : j < n
    · obtain ⟨hc, hu⟩ := Hx.out j (by rw [Hn.out]; exact hlt)
      rw [Hm.out j hlt] at hc hu
      simp only [mark] at hc hu
      have HU := Lib.hid hu
      rw [← hB.cell (p := ⟨g, off + j * 2, none⟩) l1] at hc
      clear hu
      have hgl := hB.size
      have HM := Lib.hid (fun W => markText_any (k + 2 * j) W (by omega))
      obtain ⟨m, hmm⟩ : ∃ m, mt (k + 2 * j) = m := ⟨_, rfl⟩
      rw [hmm] at hc HM
      clear hmm
      go_wp2_with fail
      go_region_held3 (fun w' => w'.cell? ⟨g, off + j * 2, none⟩ = some (.string m) ∧ w.heap.size ≤ w'.heap.size ∧ Below w.heap.size w w') (first | assumption | (refine ⟨?_, ?_, ?_⟩ <;> first | assumption | exact Below.drew (by assumption) | go_keep))
        (first | (go_at_call 25; refine (HM.out _).mono ?_; rintro e w3 ⟨rfl, hb3⟩; have hS3 := held_step (o := off + j * 2) (m := .string m) (by assumption) hb3 l1))
      obtain ⟨hc3, hsz3, hB3⟩ := hS3
      have hu3 := (hB3.cell (p := ⟨g, off + j * 2 + 1, none⟩) l1).trans HU.out
      push_cast at hu3
      go_wp2_with fail
      go_roundw
      case rel => exact ⟨j + 1, by omega, by go_num, by go_num, hB3⟩
      case measure => simp [intOf]; omega
    · obtain rfl : j = n := by omega
      go_wp2_with fail
      go_ret
      exact ⟨rfl, hB⟩

end Go.Proofs.Ytaoaclmcmeaedaa

namespace Go.Proofs.Ytaoaclmcmeaedaa
open Go.RowKit
set_option maxRecDepth 100000

/-- Whatever lies outside of the blocks from B to E (E left out) is as it was. -/
structure Keeps (B E : Nat) (w w' : World) : Prop where
  os : w'.os = w.os
  tape : w'.tape = w.tape
  output : w'.output = w.output
  size : w.heap.size ≤ w'.heap.size
  block : ∀ k, k < w.heap.size → (k < B ∨ E ≤ k) → w'.heap[k]? = w.heap[k]?

theorem Keeps.refl (B E : Nat) (w : World) : Keeps B E w w := ⟨rfl, rfl, rfl, Nat.le_refl _, fun _ _ _ => rfl⟩

theorem Keeps.trans {B E : Nat} {a b c : World} (h : Keeps B E a b) (k : Keeps B E b c) : Keeps B E a c :=
  ⟨k.os.trans h.os, k.tape.trans h.tape, k.output.trans h.output, Nat.le_trans h.size k.size, fun i hi hr => (k.block i (Nat.lt_of_lt_of_le hi h.size) hr).trans (h.block i hi hr)⟩

theorem Below.keeps {w w' : World} {B E : Nat} (h : Below w.heap.size w w') : Keeps B E w w' := ⟨h.os, h.tape, h.output, h.size, fun k hk _ => h.block k hk⟩

theorem grown_keeps {w w' : World} {g B E : Nat} (h : w.grownBy w' (some g)) (h1 : B ≤ g) (h2 : g < E) : Keeps B E w w' :=
  ⟨h.os, h.tape, h.output, h.size, fun k hk hr => h.block k hk (by intro e; injection e with e; omega)⟩

theorem Keeps.below {w0 w w' : World} {B E C : Nat} (h : Keeps B E w w') (hb : Below C w0 w) (hC : C ≤ B) (hC2 : C ≤ w.heap.size) : Below C w0 w' :=
  hb.trans ⟨h.os, h.tape, h.output, h.size, fun k hk => h.block k (by omega) (by omega)⟩

/-- A slice of slots in blocks from B to E, to be written. -/
def OwnSl (B E : Nat) (w : World) (v : Value) (xs : List Sl) : Prop :=
  (xs = [] ∧ ∃ a c, v = .slice a 0 c) ∨ ∃ g cap, v = .slice (some ⟨g, 0, none⟩) xs.length cap ∧ B ≤ g ∧ g < E ∧ E ≤ w.heap.size ∧ xs.length ≤ cap ∧ 0 < xs.length ∧ SlotsW w g 0 xs

theorem NewSl.own {B : Nat} {w : World} {v : Value} {xs : List Sl} (h : NewSl B w v xs) : OwnSl B w.heap.size w v xs := by
  rcases h with h | ⟨g, cap, rfl, h1, h2, h3, h4⟩
  · exact .inl h
  · by_cases hl : 0 < xs.length
    · exact .inr ⟨g, cap, rfl, h1, h2, Nat.le_refl _, h3, hl, h4⟩
    · have : xs = [] := List.eq_nil_of_length_eq_zero (by omega)
      subst this
      exact .inl ⟨rfl, _, _, rfl⟩

theorem OwnSl.slv {B E : Nat} {w : World} {v : Value} {xs : List Sl} (h : OwnSl B E w v xs) (hl : xs.length ≤ 2000000) : Slv w v xs := by
  rcases h with ⟨rfl, a, c, rfl⟩ | ⟨g, cap, rfl, _, _, _, _, _, hs⟩
  · exact ⟨a, 0, c, rfl, rfl, by omega, .inl rfl⟩
  · exact ⟨_, _, _, rfl, rfl, hl, .inr ⟨g, 0, rfl, hs.1⟩⟩

theorem OwnSl.keeps {B E B2 E2 : Nat} {w w' : World} {v : Value} {xs : List Sl} (h : OwnSl B E w v xs) (hk : Keeps B2 E2 w w') (hd : E ≤ B2 ∨ E2 ≤ B) : OwnSl B E w' v xs := by
  rcases h with h | ⟨g, cap, rfl, h1, h2, h3, h4, h5, h6⟩
  · exact .inl h
  · have hb := hk.block g (by omega) (by omega)
    refine .inr ⟨g, cap, rfl, h1, h2, Nat.le_trans h3 hk.size, h4, h5, fun i hi => ⟨?_, ?_⟩, fun o => ?_⟩
    · exact (World.cell?_of_block (w := w) (a := ⟨g, 0 + i * 2, none⟩) hb).trans (h6.1 i hi).1
    · exact (World.cell?_of_block (w := w) (a := ⟨g, 0 + i * 2 + 1, none⟩) hb).trans (h6.1 i hi).2
    · exact (World.frozen?_of_block (w := w) (a := ⟨g, o, none⟩) hb).trans (h6.2 o)

theorem OwnSl.below {B E C : Nat} {w w' : World} {v : Value} {xs : List Sl} (h : OwnSl B E w v xs) (hb : Below C w w') (hC : E ≤ C) : OwnSl B E w' v xs :=
  h.keeps (B2 := C) (E2 := w.heap.size) ⟨hb.os, hb.tape, hb.output, hb.size, fun k hk hr => by
    rcases hr with hr | hr
    · exact hb.block k hr
    · omega⟩ (.inl hC)

theorem OwnSl.wider {B E B' E' : Nat} {w : World} {v : Value} {xs : List Sl} (h : OwnSl B E w v xs) (h1 : B' ≤ B) (h2 : E ≤ E') (h3 : E' ≤ w.heap.size) : OwnSl B' E' w v xs := by
  rcases h with h | ⟨g, cap, rfl, g1, g2, g3, g4⟩
  · exact .inl h
  · exact .inr ⟨g, cap, rfl, by omega, by omega, h3, g4⟩

def Marks (k : Nat) (ys : List Sl) : Prop := ∀ i, i < ys.length → nth ys i = mark k i

set_option maxHeartbeats 400000 in
theorem markSlotS_any (B E k : Nat) (v : Value) (xs : List Sl) (w : World) (h : OwnSl B E w v xs) (hn1 : xs.length ≤ 2000000) (hk : k ≤ 1000000) :
    Calls Try.prog 23 #[v, .int .i64 (k : Int)] w fun e w' => e = .returned (.int .i64 ((k + 2 * xs.length : Nat) : Int)) ∧
      (∃ ys, OwnSl B E w' v ys ∧ ys.length = xs.length ∧ Marks k ys) ∧ Keeps B E w w' := by
  rcases h with ⟨rfl, a, c, rfl⟩ | ⟨g, cap, rfl, h1, h2, h3, h4, h5, h6⟩
  · go_enter Try.func23, Try.ntmps23
    go_wp2_with fail
    go_loop [1, 5] (fun k' i' => k' = .int .i64 (k : Int) ∧ i' = .int .i64 0) (fun _ _ => 0)
    case atStart => exact ⟨rfl, rfl⟩
    case round =>
      obtain ⟨rfl, rfl⟩ := hrel
      go_wp2_with fail
      go_ret
      exact ⟨rfl, ⟨[], .inl ⟨rfl, _, _, rfl⟩, rfl, fun i hi => by simp at hi⟩, Keeps.refl _ _ _⟩
  · refine (markSlotS_some g 0 xs.length cap k xs w h6 rfl h5 hn1 hk).mono ?_
    rintro e w' ⟨rfl, ⟨ys, hs, hl, hm⟩, hg⟩
    exact ⟨rfl, ⟨ys, .inr ⟨g, cap, by rw [hl], h1, h2, Nat.le_trans h3 hg.size, by rw [hl]; exact h4, by rw [hl]; exact h5, hs⟩, hl, fun i hi => hm i (by omega)⟩, grown_keeps hg h1 h2⟩

set_option maxHeartbeats 400000 in
theorem heldSlotS_any (B E k : Nat) (v : Value) (ys : List Sl) (w : World) (h : OwnSl B E w v ys) (hn1 : ys.length ≤ 2000000) (hk : k ≤ 1000000) (hm : Marks k ys) :
    Calls Try.prog 26 #[v, .int .i64 (k : Int)] w fun e w' => e = .returned (.int .i64 ((k + 2 * ys.length : Nat) : Int)) ∧ Below w.heap.size w w' := by
  rcases h with ⟨rfl, a, c, rfl⟩ | ⟨g, cap, rfl, h1, h2, h3, h4, h5, h6⟩
  · clear hm
    go_enter Try.func26, Try.ntmps26
    go_wp2_with fail
    go_loop [1, 5] (fun k' i' => k' = .int .i64 (k : Int) ∧ i' = .int .i64 0) (fun _ _ => 0)
    case atStart => exact ⟨rfl, rfl⟩
    case round =>
      obtain ⟨rfl, rfl⟩ := hrel
      go_wp2_with fail
      go_ret
      exact ⟨rfl, Below.refl _ _⟩
  · exact heldSlotS_some g 0 ys.length cap k ys w h6.1 rfl h5 hn1 hk (fun i hi => hm i hi)

theorem list_ext_nth (xs ys : List Sl) (hl : xs.length = ys.length) (h : ∀ i, i < xs.length → nth xs i = nth ys i) : xs = ys := by
  apply List.ext_getElem hl
  intro i h1 h2
  rw [← nth_get xs i h1, ← nth_get ys i h2]
  exact h i h1

theorem madeSlots (n : Nat) : (madeCells (Value.agg #[.string ⟨#[]⟩, .int .i64 0]).cells (n * 2)).toList = flat (List.replicate n Sl.none) := by
  apply List.ext_getElem?
  intro j
  have hc : (Value.agg #[.string ⟨#[]⟩, .int .i64 0]).cells = #[.string ⟨#[]⟩, .int .i64 0] := by kernel_rfl
  rw [hc]
  have hl : (List.replicate n Sl.none).length = n := List.length_replicate
  by_cases hj : j < n * 2
  · by_cases e : j % 2 = 0
    · obtain ⟨i, rfl⟩ : ∃ i, j = i * 2 := ⟨j / 2, by omega⟩
      rw [flat_text _ i (by rw [hl]; omega)]
      simp [madeCells, hj, nth, List.getD_eq_getElem?_getD, show i < n by omega, Sl.none]
    · obtain ⟨i, rfl⟩ : ∃ i, j = i * 2 + 1 := ⟨j / 2, by omega⟩
      rw [flat_uses _ i (by rw [hl]; omega)]
      have h2 : (i * 2 + 1) % 2 = 1 := by omega
      simp [madeCells, hj, nth, List.getD_eq_getElem?_getD, show i < n by omega, Sl.none, h2]
  · have hl2 : (flat (List.replicate n Sl.none)).length = n * 2 := by rw [flat_length, List.length_replicate]
    have hl3 : (madeCells #[.string ⟨#[]⟩, .int .i64 0] (n * 2)).toList.length = n * 2 := by rw [Array.length_toList, size_madeCells]
    rw [List.getElem?_eq_none (by omega), List.getElem?_eq_none (by omega)]

end Go.Proofs.Ytaoaclmcmeaedaa

namespace Go.Proofs.Ytaoaclmcmeaedaa
open Go.RowKit Go.ChangeShapes Go.WideShapes
set_option maxRecDepth 100000

instance : Inhabited Sl := ⟨Sl.none⟩

theorem nth_map (f : Nat → Sl) (n i : Nat) (h : i < n) : nth ((List.range n).map f) i = f i := by
  rw [nth_get _ _ (by simpa using h)]; simp

def Fits (xs : List Sl) : Prop := ∀ i, i < xs.length → (nth xs i).text.size ≤ maxLen

end Go.Proofs.Ytaoaclmcmeaedaa
