/- What the laws' own helpers on slots answer. -/
import Derived.Test.YtjnabljmeebpcaaStoreX
import Derived.StillTailTactics
import Derived.Laws.IdiomStrings
namespace Go.Proofs.Ytjnabljmeebpcaa
open Go.RowKit

def slV (x : Sl) : Value := .agg #[.string x.text, .int .i64 x.uses]

/-- Two slots are the same. -/
def sameSl (x y : Sl) : Bool := x.text.toList == y.text.toList && x.uses == y.uses

set_option maxHeartbeats 400000 in
theorem eqSlot_any (x y : Sl) (w : World) :
    Calls Try.prog 20 #[.agg #[.string x.text, .int .i64 x.uses], .agg #[.string y.text, .int .i64 y.uses]] w fun e w' => e = .returned (.bool (sameSl x y)) ∧ Below w.heap.size w w' := by
  obtain ⟨t1, u1⟩ := x
  obtain ⟨t2, u2⟩ := y
  simp only [sameSl]
  have hb : ∀ o1 o2, Below w.heap.size w ((w.alloc o1).alloc o2) := fun o1 o2 => ((Below.refl _ _).alloc (Nat.le_refl _) _).alloc (by simp) _
  have HB := Lib.hid hb
  clear hb
  cases h1 : (t1.toList == t2.toList)
  · go_enter Try.func20, Try.ntmps20
    go_wp2_with fail
    go_ret
    exact ⟨rfl, HB.out _ _⟩
  · cases h2 : (u1 == u2)
    · go_enter Try.func20, Try.ntmps20
      go_wp2_with fail
      go_ret
      exact ⟨rfl, HB.out _ _⟩
    · go_enter Try.func20, Try.ntmps20
      go_wp2_with fail
      go_ret
      exact ⟨rfl, HB.out _ _⟩

def sameTo (xs ys : List Sl) (k : Nat) : Bool := (List.range k).all fun i => sameSl (nth xs i) (nth ys i)

def sameSls (xs ys : List Sl) : Bool := decide (xs.length = ys.length) && sameTo xs ys xs.length

set_option maxRecDepth 100000 in
set_option maxHeartbeats 800000 in
theorem eqSlotS_some (g1 o1 g2 o2 n c1 c2 : Nat) (xs ys : List Sl) (w : World) (hx : Slots w g1 o1 xs) (hy : Slots w g2 o2 ys) (hn : xs.length = n) (hm : ys.length = n) (h0 : 0 < n) (hn1 : n ≤ 2000000) :
    Calls Try.prog 11 #[.slice (some ⟨g1, o1, none⟩) n c1, .slice (some ⟨g2, o2, none⟩) n c2] w fun e w' => e = .returned (.bool (sameTo xs ys n)) ∧ Below w.heap.size w w' := by
  have Hx := Lib.hid hx
  have Hy := Lib.hid hy
  have Hn := Lib.hid hn
  have Hm := Lib.hid hm
  have l1 := hx.lt (by omega)
  have l2 := hy.lt (by omega)
  clear hx hy hn hm
  go_enter Try.func11, Try.ntmps11
  go_wp2_with fail
  go_loopw [5] (fun i wr => ∃ k : Nat, k ≤ n ∧ i = .int .i64 (k : Int) ∧ sameTo xs ys k = true ∧ Below w.heap.size w wr) (fun i _ => n - (intOf i).toNat)
  case atStart => exact ⟨0, by omega, rfl, rfl, Below.refl _ _⟩
  case round =>
    obtain ⟨k, hk, rfl, hs, hB⟩ := hrel
    have Hs := Lib.hid hs
    clear hs
    by_cases hlt : k < n
    · obtain ⟨ha, hb⟩ := Hx.out k (by rw [Hn.out]; exact hlt)
      obtain ⟨hc, hd⟩ := Hy.out k (by rw [Hm.out]; exact hlt)
      rw [← hB.cell (p := ⟨g1, o1 + k * 2, none⟩) l1] at ha
      rw [← hB.cell (p := ⟨g1, o1 + k * 2 + 1, none⟩) l1] at hb
      rw [← hB.cell (p := ⟨g2, o2 + k * 2, none⟩) l2] at hc
      rw [← hB.cell (p := ⟨g2, o2 + k * 2 + 1, none⟩) l2] at hd
      have hC := eqSlot_any (nth xs k) (nth ys k)
      have HC := Lib.hid hC
      clear hC
      go_wp2_with fail
      go_still_tail 8, (by kernel_rfl)
      have hB2 := hB.drew
      change wpList _ _ _ _ _ wr.drew
      generalize wr.drew = w2 at *
      go_wp2_with fail
      refine (HC.out _).mono ?_
      rintro e w3 ⟨rfl, hb3⟩
      have hB3 := hB2.trans (hb3.mono hB2.size)
      cases he : sameSl (nth xs k) (nth ys k)
      · have Hq : Hid (sameTo xs ys n = false) := Lib.hid (all_range_no _ n k hlt he)
        go_wp2_with fail
        go_ret
        exact ⟨by rw [Hq.out]; rfl, hB3⟩
      · have Hq : Hid (sameTo xs ys (k + 1) = true) := Lib.hid (all_range_succ _ k Hs.out he)
        go_wp2_with fail
        go_roundw
        case rel => exact ⟨k + 1, by omega, by go_num, Hq.out, hB3⟩
        case measure => simp [intOf]; omega
    · obtain rfl : k = n := by omega
      go_wp2_with fail
      go_ret
      exact ⟨by rw [Hs.out]; rfl, hB⟩

/-- A slice of slots, nil and empty ones too. -/
def Slv (w : World) (v : Value) (xs : List Sl) : Prop := ∃ a n c, v = .slice a n c ∧ xs.length = n ∧ n ≤ 2000000 ∧ Sls w a xs

theorem NewSl.slv {B : Nat} {w : World} {v : Value} {xs : List Sl} (h : NewSl B w v xs) (hl : xs.length ≤ 2000000) : Slv w v xs := by
  rcases h with ⟨rfl, a, c, rfl⟩ | ⟨g, cap, rfl, _, _, _, hs⟩
  · exact ⟨a, 0, c, rfl, rfl, by omega, .inl rfl⟩
  · exact ⟨_, _, _, rfl, rfl, hl, .inr ⟨g, 0, rfl, hs.1⟩⟩

theorem Sls.below {w w' : World} {B : Nat} {a : Option Addr} {xs : List Sl} (h : Sls w a xs) (hb : Below B w w') (hB : w.heap.size ≤ B) : Sls w' a xs := by
  rcases h with h | ⟨g, off, e, hx⟩
  · exact .inl h
  · by_cases hl : 0 < xs.length
    · exact .inr ⟨g, off, e, hx.below hb (by have := hx.lt hl; omega)⟩
    · exact .inl (List.eq_nil_of_length_eq_zero (by omega))

theorem Slv.below {w w' : World} {B : Nat} {v : Value} {xs : List Sl} (h : Slv w v xs) (hb : Below B w w') (hB : w.heap.size ≤ B) : Slv w' v xs := by
  obtain ⟨a, n, c, hv, hn, hn1, hs⟩ := h
  exact ⟨a, n, c, hv, hn, hn1, hs.below hb hB⟩

theorem sameSls_len (xs ys : List Sl) (h : xs.length ≠ ys.length) : sameSls xs ys = false := by simp [sameSls, h]

set_option maxHeartbeats 400000 in
theorem eqSlotS_any (v1 v2 : Value) (xs ys : List Sl) (w : World) (hx : Slv w v1 xs) (hy : Slv w v2 ys) :
    Calls Try.prog 11 #[v1, v2] w fun e w' => e = .returned (.bool (sameSls xs ys)) ∧ Below w.heap.size w w' := by
  obtain ⟨a1, n1, c1, rfl, hn1, hm1, hs1⟩ := hx
  obtain ⟨a2, n2, c2, rfl, hn2, hm2, hs2⟩ := hy
  by_cases he : n1 = n2
  · subst he
    have hq : sameSls xs ys = sameTo xs ys n1 := by simp [sameSls, hn1, hn2]
    rw [hq]
    rcases hs1 with rfl | ⟨g1, o1, rfl, hs1⟩
    · obtain rfl : 0 = n1 := hn1
      clear hs2 hn2 hq
      go_enter Try.func11, Try.ntmps11
      go_wp2_with fail
      go_loop [5] (fun i' => i' = .int .i64 0) (fun _ => 0)
      case atStart => rfl
      case round =>
        obtain rfl := hrel
        go_wp2_with fail
        go_ret
        exact ⟨rfl, Below.refl _ _⟩
    · rcases hs2 with rfl | ⟨g2, o2, rfl, hs2⟩
      · obtain rfl : 0 = n1 := hn2
        clear hs1 hn1 hq
        go_enter Try.func11, Try.ntmps11
        go_wp2_with fail
        go_loop [5] (fun i' => i' = .int .i64 0) (fun _ => 0)
        case atStart => rfl
        case round =>
          obtain rfl := hrel
          go_wp2_with fail
          go_ret
          exact ⟨rfl, Below.refl _ _⟩
      · by_cases h0 : 0 < n1
        · exact eqSlotS_some g1 o1 g2 o2 n1 c1 c2 xs ys w hs1 hs2 hn1 hn2 h0 hm1
        · obtain rfl : n1 = 0 := by omega
          clear hs1 hs2 hn1 hn2 hq
          go_enter Try.func11, Try.ntmps11
          go_wp2_with fail
          go_loop [5] (fun i' => i' = .int .i64 0) (fun _ => 0)
          case atStart => rfl
          case round =>
            obtain rfl := hrel
            go_wp2_with fail
            go_ret
            exact ⟨rfl, Below.refl _ _⟩
  · rw [sameSls_len xs ys (by omega)]
    have he2 : ((n1 : Int) != n2) = true := by simp; omega
    clear hs1 hs2 hn1 hn2
    go_enter Try.func11, Try.ntmps11
    go_wp2_with fail
    go_ret
    exact ⟨rfl, Below.refl _ _⟩

/-- The last digit of a number, as a text. -/
def dgt (q : Nat) : ByteArray := ⟨#[48 + UInt8.ofNat (q % 10)]⟩

def mtGo : Nat → Nat → ByteArray → ByteArray
  | 0, _, out => out
  | f + 1, q, out => if q = 0 then out else mtGo f (q / 10) (dgt q ++ out)

/-- The mark of a number. -/
def mt (k : Nat) : ByteArray := if k = 0 then ⟨#[109, 48]⟩ else ⟨#[109]⟩ ++ mtGo (k + 1) k ⟨#[]⟩

theorem mtGo_zero (f : Nat) (out : ByteArray) : mtGo f 0 out = out := by cases f <;> simp [mtGo]

theorem mtGo_more (f q : Nat) (out : ByteArray) (hq : 0 < q) : mtGo (f + 1) q out = mtGo f (q / 10) (dgt q ++ out) := by
  rw [mtGo, if_neg (by omega)]

theorem conv_one (w : World) (n : Int) (h0 : 0 ≤ n) (h1 : n ≤ 255) :
    (convert 61 9 (.slice (some ⟨w.heap.size, 0, none⟩) 1 1)).run Try.prog (w.alloc (.cells #[.int .u8 n] 5)) = .ok (.string ⟨#[UInt8.ofNat n.toNat]⟩) (w.alloc (.cells #[.int .u8 n] 5)) := by
  have h := run_convert_bytes_back (P := Try.prog) (w.alloc (.cells #[.int .u8 n] 5)) 61 9 5 ⟨w.heap.size, 0, none⟩ 1 [UInt8.ofNat n.toNat] Try.underlying61 Try.underlying5 Try.underlying9 (by
    intro j hj
    obtain rfl : j = 0 := by simpa using hj
    simp [Addr.add]
    omega)
  exact h

set_option maxHeartbeats 800000 in
theorem markText_any (k : Nat) (w : World) (hk : k ≤ 1000000000) :
    Calls Try.prog 22 #[.int .i64 (k : Int)] w fun e w' => e = .returned (.string (mt k)) ∧ Below w.heap.size w w' := by
  rcases Nat.eq_zero_or_pos k with rfl | h0
  · go_enter Try.func22, Try.ntmps22
    go_wp2_with fail
    go_ret
    exact ⟨rfl, Below.refl _ _⟩
  · have Hm : Hid (mt k = ⟨#[109]⟩ ++ mtGo (k + 1) k ⟨#[]⟩) := Lib.hid (by rw [mt, if_neg (by omega)])
    go_enter Try.func22, Try.ntmps22
    go_wp2_with fail
    go_loopw [0, 3] (fun k' out wr => ∃ (f q : Nat) (s : ByteArray), k' = .int .i64 (q : Int) ∧ out = .string s ∧ s.size + q ≤ 1000000000 ∧ q < f ∧ mtGo f q s = mtGo (k + 1) k ⟨#[]⟩ ∧ Below w.heap.size w wr) (fun k' _ _ => (intOf k').toNat)
    case atStart => exact ⟨k + 1, k, ⟨#[]⟩, rfl, rfl, by show 0 + k ≤ _; omega, by omega, rfl, Below.refl _ _⟩
    case round =>
      obtain ⟨f, q, s, rfl, rfl, hs, hf, hT, hB⟩ := hrel
      have HT := Lib.hid hT
      clear hT
      by_cases hz : 0 < q
      · obtain ⟨f', rfl⟩ : ∃ f', f = f' + 1 := ⟨f - 1, by omega⟩
        have HT2 := Lib.hid ((mtGo_more f' q s hz).symm.trans HT.out)
        have hd1 : 0 ≤ (q : Int) % 10 := Int.emod_nonneg _ (by omega)
        have hd2 : (q : Int) % 10 < 10 := Int.emod_lt_of_pos _ (by omega)
        have hcv := conv_one wr (48 + (q : Int) % 10) (by omega) (by omega)
        go_wp2_with fail
        go_roundw
        case rel => exact ⟨f', q / 10, dgt q ++ s, by push_cast; rfl, by unfold dgt; rfl, by rw [ByteArray.size_append]; show 1 + s.size + _ ≤ _; omega, by omega, HT2.out, hB.alloc hB.size _⟩
        case measure => simp [intOf]; omega
      · obtain rfl : q = 0 := by omega
        have Hs : Hid (s = mtGo (k + 1) k ⟨#[]⟩) := Lib.hid (by rw [← HT.out, mtGo_zero])
        go_wp2_with fail
        go_ret
        exact ⟨by rw [Hm.out, ← Hs.out]; rfl, hB⟩

end Go.Proofs.Ytjnabljmeebpcaa
