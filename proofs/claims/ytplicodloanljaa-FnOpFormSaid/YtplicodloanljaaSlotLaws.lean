/- What the laws' own helpers on slots answer. -/
import Derived.Test.YtplicodloanljaaStoreX
import Derived.StillTailTactics
import Derived.Laws.IdiomStrings
namespace Go.Proofs.Ytplicodloanljaa
open Go.RowKit

def slV (x : Sl) : Value := .agg #[.string x.text, .int .i64 x.uses]

/-- Two slots are the same. -/
def sameSl (x y : Sl) : Bool := x.text.toList == y.text.toList && x.uses == y.uses

def sameTo (xs ys : List Sl) (k : Nat) : Bool := (List.range k).all fun i => sameSl (nth xs i) (nth ys i)

def sameSls (xs ys : List Sl) : Bool := decide (xs.length = ys.length) && sameTo xs ys xs.length

/-- A slice of slots, nil and empty ones too. -/
def Slv (w : World) (v : Value) (xs : List Sl) : Prop := ∃ a n c, v = .slice a n c ∧ xs.length = n ∧ n ≤ 2000000 ∧ Sls w a xs

theorem NewSl.slv {B : Nat} {w : World} {v : Value} {xs : List Sl} (h : NewSl B w v xs) (hl : xs.length ≤ 2000000) : Slv w v xs := by
  rcases h with ⟨rfl, a, c, rfl⟩ | ⟨g, cap, rfl, _, _, _, hs⟩
  · exact ⟨a, 0, c, rfl, rfl, by omega, .inl rfl⟩
  · exact ⟨_, _, _, rfl, rfl, hl, .inr ⟨g, 0, rfl, hs.1⟩⟩

theorem Sls.below {w w' : World} {B : Nat} {a : Option Addr} {xs : List Sl} (h : Sls w a xs) (hb : Below B w w') (hB : w.heap.size ≤ B) : Sls w' a xs := by
  rcases h with h | ⟨g, off, e, hx⟩
  · exact .inl h
  · by_cases hl : 0 < xs.length
    · exact .inr ⟨g, off, e, hx.below hb (by have := hx.lt hl; omega)⟩
    · exact .inl (List.eq_nil_of_length_eq_zero (by omega))

theorem Slv.below {w w' : World} {B : Nat} {v : Value} {xs : List Sl} (h : Slv w v xs) (hb : Below B w w') (hB : w.heap.size ≤ B) : Slv w' v xs := by
  obtain ⟨a, n, c, hv, hn, hn1, hs⟩ := h
  exact ⟨a, n, c, hv, hn, hn1, hs.below hb hB⟩

theorem sameSls_len (xs ys : List Sl) (h : xs.length ≠ ys.length) : sameSls xs ys = false := by simp [sameSls, h]

/-- The last digit of a number, as a text. -/
def dgt (q : Nat) : ByteArray := ⟨#[48 + UInt8.ofNat (q % 10)]⟩

def mtGo : Nat → Nat → ByteArray → ByteArray
  | 0, _, out => out
  | f + 1, q, out => if q = 0 then out else mtGo f (q / 10) (dgt q ++ out)

/-- The mark of a number. -/
def mt (k : Nat) : ByteArray := if k = 0 then ⟨#[109, 48]⟩ else ⟨#[109]⟩ ++ mtGo (k + 1) k ⟨#[]⟩

theorem mtGo_zero (f : Nat) (out : ByteArray) : mtGo f 0 out = out := by cases f <;> simp [mtGo]

theorem mtGo_more (f q : Nat) (out : ByteArray) (hq : 0 < q) : mtGo (f + 1) q out = mtGo f (q / 10) (dgt q ++ out) := by
  rw [mtGo, if_neg (by omega)]

theorem conv_one (w : World) (n : Int) (h0 : 0 ≤ n) (h1 : n ≤ 255) :
    (convert 22 9 (.slice (some ⟨w.heap.size, 0, none⟩) 1 1)).run Try.prog (w.alloc (.cells #[.int .u8 n] 5)) = .ok (.string ⟨#[UInt8.ofNat n.toNat]⟩) (w.alloc (.cells #[.int .u8 n] 5)) := by
  have h := run_convert_bytes_back (P := Try.prog) (w.alloc (.cells #[.int .u8 n] 5)) 22 9 5 ⟨w.heap.size, 0, none⟩ 1 [UInt8.ofNat n.toNat] Try.underlying22 Try.underlying5 Try.underlying9 (by
    intro j hj
    obtain rfl : j = 0 := by simpa using hj
    simp [Addr.add]
    omega)
  exact h

end Go.Proofs.Ytplicodloanljaa
