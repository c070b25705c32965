/- What the laws' own helpers on slots answer. What the laws' marks on slots do: each field is written its own mark, and read back. Slices of slots that lie in a range of blocks of the call's own; the laws' copies and sizes. A slice of the laws' own slots that comes in. -/
import Derived.Test.YtplicodloanljaaDoorStore
import Derived.StillTailTactics
import Derived.Laws.IdiomStrings
import Derived.Deep.RegionHeld3
import Derived.Deep.SlicePairs
import Derived.ChangeArms
namespace Go.Proofs.YtplicodloanljaaDoor
open Go.RowKit

def slV (x : Sl) : Value := .agg #[.string x.text, .int .i64 x.uses]

/-- Two slots are the same. -/
def sameSl (x y : Sl) : Bool := x.text.toList == y.text.toList && x.uses == y.uses

def sameTo (xs ys : List Sl) (k : Nat) : Bool := (List.range k).all fun i => sameSl (nth xs i) (nth ys i)

def sameSls (xs ys : List Sl) : Bool := decide (xs.length = ys.length) && sameTo xs ys xs.length

/-- A slice of slots, nil and empty ones too. -/
def Slv (w : World) (v : Value) (xs : List Sl) : Prop := ∃ a n c, v = .slice a n c ∧ xs.length = n ∧ n ≤ 2000000 ∧ Sls w a xs

theorem NewSl.slv {B : Nat} {w : World} {v : Value} {xs : List Sl} (h : NewSl B w v xs) (hl : xs.length ≤ 2000000) : Slv w v xs := by
  rcases h with ⟨rfl, a, c, rfl⟩ | ⟨g, cap, rfl, _, _, _, hs⟩
  · exact ⟨a, 0, c, rfl, rfl, by omega, .inl rfl⟩
  · exact ⟨_, _, _, rfl, rfl, hl, .inr ⟨g, 0, rfl, hs.1⟩⟩

theorem Sls.below {w w' : World} {B : Nat} {a : Option Addr} {xs : List Sl} (h : Sls w a xs) (hb : Below B w w') (hB : w.heap.size ≤ B) : Sls w' a xs := by
  rcases h with h | ⟨g, off, e, hx⟩
  · exact .inl h
  · by_cases hl : 0 < xs.length
    · exact .inr ⟨g, off, e, hx.below hb (by have := hx.lt hl; omega)⟩
    · exact .inl (List.eq_nil_of_length_eq_zero (by omega))

theorem Slv.below {w w' : World} {B : Nat} {v : Value} {xs : List Sl} (h : Slv w v xs) (hb : Below B w w') (hB : w.heap.size ≤ B) : Slv w' v xs := by
  obtain ⟨a, n, c, hv, hn, hn1, hs⟩ := h
  exact ⟨a, n, c, hv, hn, hn1, hs.below hb hB⟩

theorem sameSls_len (xs ys : List Sl) (h : xs.length ≠ ys.length) : sameSls xs ys = false := by simp [sameSls, h]

/-- The last digit of a number, as a text. -/
def dgt (q : Nat) : ByteArray := ⟨#[48 + UInt8.ofNat (q % 10)]⟩

def mtGo : Nat → Nat → ByteArray → ByteArray
  | 0, _, out => out
  | f + 1, q, out => if q = 0 then out else mtGo f (q / 10) (dgt q ++ out)

/-- The mark of a number. -/
def mt (k : Nat) : ByteArray := if k = 0 then ⟨#[109, 48]⟩ else ⟨#[109]⟩ ++ mtGo (k + 1) k ⟨#[]⟩

theorem mtGo_zero (f : Nat) (out : ByteArray) : mtGo f 0 out = out := by cases f <;> simp [mtGo]

theorem mtGo_more (f q : Nat) (out : ByteArray) (hq : 0 < q) : mtGo (f + 1) q out = mtGo f (q / 10) (dgt q ++ out) := by
  rw [mtGo, if_neg (by omega)]

theorem conv_one (w : World) (n : Int) (h0 : 0 ≤ n) (h1 : n ≤ 255) :
    (convert 22 9 (.slice (some ⟨w.heap.size, 0, none⟩) 1 1)).run Tryd.prog (w.alloc (.cells #[.int .u8 n] 5)) = .ok (.string ⟨#[UInt8.ofNat n.toNat]⟩) (w.alloc (.cells #[.int .u8 n] 5)) := by
  have h := run_convert_bytes_back (P := Tryd.prog) (w.alloc (.cells #[.int .u8 n] 5)) 22 9 5 ⟨w.heap.size, 0, none⟩ 1 [UInt8.ofNat n.toNat] Tryd.underlying22 Tryd.underlying5 Tryd.underlying9 (by
    intro j hj
    obtain rfl : j = 0 := by simpa using hj
    simp [Addr.add]
    omega)
  exact h

end Go.Proofs.YtplicodloanljaaDoor

namespace Go.Proofs.YtplicodloanljaaDoor
open Go.RowKit
set_option maxRecDepth 100000

def mark (k i : Nat) : Sl := ⟨mt (k + 2 * i), ((k + 2 * i + 1 : Nat) : Int)⟩

theorem held_step {w W w3 : World} {g o : Nat} {m : Value} (hS : W.cell? ⟨g, o, none⟩ = some m ∧ w.heap.size ≤ W.heap.size ∧ Below w.heap.size w W) (hb3 : Below W.heap.size W w3) (l : g < w.heap.size) :
    w3.cell? ⟨g, o, none⟩ = some m ∧ w.heap.size ≤ w3.heap.size ∧ Below w.heap.size w w3 :=
  ⟨(hb3.cell (p := ⟨g, o, none⟩) (by show g < _; have := hS.2.1; omega)).trans hS.1, Nat.le_trans hS.2.1 hb3.size, hS.2.2.trans (hb3.mono hS.2.1)⟩

end Go.Proofs.YtplicodloanljaaDoor

namespace Go.Proofs.YtplicodloanljaaDoor
open Go.RowKit
set_option maxRecDepth 100000

/-- Whatever lies outside of the blocks from B to E (E left out) is as it was. -/
structure Keeps (B E : Nat) (w w' : World) : Prop where
  os : w'.os = w.os
  tape : w'.tape = w.tape
  output : w'.output = w.output
  size : w.heap.size ≤ w'.heap.size
  block : ∀ k, k < w.heap.size → (k < B ∨ E ≤ k) → w'.heap[k]? = w.heap[k]?

theorem Keeps.refl (B E : Nat) (w : World) : Keeps B E w w := ⟨rfl, rfl, rfl, Nat.le_refl _, fun _ _ _ => rfl⟩

theorem Keeps.trans {B E : Nat} {a b c : World} (h : Keeps B E a b) (k : Keeps B E b c) : Keeps B E a c :=
  ⟨k.os.trans h.os, k.tape.trans h.tape, k.output.trans h.output, Nat.le_trans h.size k.size, fun i hi hr => (k.block i (Nat.lt_of_lt_of_le hi h.size) hr).trans (h.block i hi hr)⟩

theorem Below.keeps {w w' : World} {B E : Nat} (h : Below w.heap.size w w') : Keeps B E w w' := ⟨h.os, h.tape, h.output, h.size, fun k hk _ => h.block k hk⟩

theorem grown_keeps {w w' : World} {g B E : Nat} (h : w.grownBy w' (some g)) (h1 : B ≤ g) (h2 : g < E) : Keeps B E w w' :=
  ⟨h.os, h.tape, h.output, h.size, fun k hk hr => h.block k hk (by intro e; injection e with e; omega)⟩

theorem Keeps.below {w0 w w' : World} {B E C : Nat} (h : Keeps B E w w') (hb : Below C w0 w) (hC : C ≤ B) (hC2 : C ≤ w.heap.size) : Below C w0 w' :=
  hb.trans ⟨h.os, h.tape, h.output, h.size, fun k hk => h.block k (by omega) (by omega)⟩

/-- A slice of slots in blocks from B to E, to be written. -/
def OwnSl (B E : Nat) (w : World) (v : Value) (xs : List Sl) : Prop :=
  (xs = [] ∧ ∃ a c, v = .slice a 0 c) ∨ ∃ g cap, v = .slice (some ⟨g, 0, none⟩) xs.length cap ∧ B ≤ g ∧ g < E ∧ E ≤ w.heap.size ∧ xs.length ≤ cap ∧ 0 < xs.length ∧ SlotsW w g 0 xs

theorem NewSl.own {B : Nat} {w : World} {v : Value} {xs : List Sl} (h : NewSl B w v xs) : OwnSl B w.heap.size w v xs := by
  rcases h with h | ⟨g, cap, rfl, h1, h2, h3, h4⟩
  · exact .inl h
  · by_cases hl : 0 < xs.length
    · exact .inr ⟨g, cap, rfl, h1, h2, Nat.le_refl _, h3, hl, h4⟩
    · have : xs = [] := List.eq_nil_of_length_eq_zero (by omega)
      subst this
      exact .inl ⟨rfl, _, _, rfl⟩

theorem OwnSl.slv {B E : Nat} {w : World} {v : Value} {xs : List Sl} (h : OwnSl B E w v xs) (hl : xs.length ≤ 2000000) : Slv w v xs := by
  rcases h with ⟨rfl, a, c, rfl⟩ | ⟨g, cap, rfl, _, _, _, _, _, hs⟩
  · exact ⟨a, 0, c, rfl, rfl, by omega, .inl rfl⟩
  · exact ⟨_, _, _, rfl, rfl, hl, .inr ⟨g, 0, rfl, hs.1⟩⟩

theorem OwnSl.keeps {B E B2 E2 : Nat} {w w' : World} {v : Value} {xs : List Sl} (h : OwnSl B E w v xs) (hk : Keeps B2 E2 w w') (hd : E ≤ B2 ∨ E2 ≤ B) : OwnSl B E w' v xs := by
  rcases h with h | ⟨g, cap, rfl, h1, h2, h3, h4, h5, h6⟩
  · exact .inl h
  · have hb := hk.block g (by omega) (by omega)
    refine .inr ⟨g, cap, rfl, h1, h2, Nat.le_trans h3 hk.size, h4, h5, fun i hi => ⟨?_, ?_⟩, fun o => ?_⟩
    · exact (World.cell?_of_block (w := w) (a := ⟨g, 0 + i * 2, none⟩) hb).trans (h6.1 i hi).1
    · exact (World.cell?_of_block (w := w) (a := ⟨g, 0 + i * 2 + 1, none⟩) hb).trans (h6.1 i hi).2
    · exact (World.frozen?_of_block (w := w) (a := ⟨g, o, none⟩) hb).trans (h6.2 o)

theorem OwnSl.below {B E C : Nat} {w w' : World} {v : Value} {xs : List Sl} (h : OwnSl B E w v xs) (hb : Below C w w') (hC : E ≤ C) : OwnSl B E w' v xs :=
  h.keeps (B2 := C) (E2 := w.heap.size) ⟨hb.os, hb.tape, hb.output, hb.size, fun k hk hr => by
    rcases hr with hr | hr
    · exact hb.block k hr
    · omega⟩ (.inl hC)

theorem OwnSl.wider {B E B' E' : Nat} {w : World} {v : Value} {xs : List Sl} (h : OwnSl B E w v xs) (h1 : B' ≤ B) (h2 : E ≤ E') (h3 : E' ≤ w.heap.size) : OwnSl B' E' w v xs := by
  rcases h with h | ⟨g, cap, rfl, g1, g2, g3, g4⟩
  · exact .inl h
  · exact .inr ⟨g, cap, rfl, by omega, by omega, h3, g4⟩

def Marks (k : Nat) (ys : List Sl) : Prop := ∀ i, i < ys.length → nth ys i = mark k i

theorem list_ext_nth (xs ys : List Sl) (hl : xs.length = ys.length) (h : ∀ i, i < xs.length → nth xs i = nth ys i) : xs = ys := by
  apply List.ext_getElem hl
  intro i h1 h2
  rw [← nth_get xs i h1, ← nth_get ys i h2]
  exact h i h1

theorem madeSlots (n : Nat) : (madeCells (Value.agg #[.string ⟨#[]⟩, .int .i64 0]).cells (n * 2)).toList = flat (List.replicate n Sl.none) := by
  apply List.ext_getElem?
  intro j
  have hc : (Value.agg #[.string ⟨#[]⟩, .int .i64 0]).cells = #[.string ⟨#[]⟩, .int .i64 0] := by kernel_rfl
  rw [hc]
  have hl : (List.replicate n Sl.none).length = n := List.length_replicate
  by_cases hj : j < n * 2
  · by_cases e : j % 2 = 0
    · obtain ⟨i, rfl⟩ : ∃ i, j = i * 2 := ⟨j / 2, by omega⟩
      rw [flat_text _ i (by rw [hl]; omega)]
      simp [madeCells, hj, nth, List.getD_eq_getElem?_getD, show i < n by omega, Sl.none]
    · obtain ⟨i, rfl⟩ : ∃ i, j = i * 2 + 1 := ⟨j / 2, by omega⟩
      rw [flat_uses _ i (by rw [hl]; omega)]
      have h2 : (i * 2 + 1) % 2 = 1 := by omega
      simp [madeCells, hj, nth, List.getD_eq_getElem?_getD, show i < n by omega, Sl.none, h2]
  · have hl2 : (flat (List.replicate n Sl.none)).length = n * 2 := by rw [flat_length, List.length_replicate]
    have hl3 : (madeCells #[.string ⟨#[]⟩, .int .i64 0] (n * 2)).toList.length = n * 2 := by rw [Array.length_toList, size_madeCells]
    rw [List.getElem?_eq_none (by omega), List.getElem?_eq_none (by omega)]

end Go.Proofs.YtplicodloanljaaDoor

namespace Go.Proofs.YtplicodloanljaaDoor
open Go.RowKit Go.ChangeShapes Go.WideShapes
set_option maxRecDepth 100000

instance : Inhabited Sl := ⟨Sl.none⟩

theorem nth_map (f : Nat → Sl) (n i : Nat) (h : i < n) : nth ((List.range n).map f) i = f i := by
  rw [nth_get _ _ (by simpa using h)]; simp

def Fits (xs : List Sl) : Prop := ∀ i, i < xs.length → (nth xs i).text.size ≤ maxLen

end Go.Proofs.YtplicodloanljaaDoor
