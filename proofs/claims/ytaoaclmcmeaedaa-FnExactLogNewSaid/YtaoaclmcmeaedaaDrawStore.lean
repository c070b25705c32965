/- What the model's draws of stores answer. What the draws of chapter 2 answer. What the draw of a store and a piece to be put answers. -/
import Derived.Test.YtaoaclmcmeaedaaSlotLaws
import Derived.Test.YtaoaclmcmeaedaaStoreV
namespace Go.Proofs.Ytaoaclmcmeaedaa
open Go.RowKit

/-- Drawn slots: short texts, small counts. -/
def Bnd (lo : Int) (xs : List Sl) : Prop := ∀ i, i < xs.length → (nth xs i).text.size ≤ 20 ∧ lo ≤ (nth xs i).uses ∧ (nth xs i).uses ≤ 100

/-- A reader in block B, and slots in a later block g, of the call's own. -/
structure DSt (B P : Nat) (w0 w : World) (g off : Nat) (xs : List Sl) : Prop where
  rd : Rd B P w
  lt : B < g
  gs : g < w.heap.size
  new : w0.heap.size ≤ g
  sl : SlotsW w g off xs
  gr : w0.grownBy w (some B)

theorem DSt.ask {B P Q : Nat} {w0 w w' : World} {g off : Nat} {xs : List Sl} (h : DSt B P w0 w g off xs) (hr : RdTo B Q w w') : DSt B Q w0 w' g off xs :=
  ⟨hr.1, h.lt, Nat.lt_of_lt_of_le h.gs hr.2.size, h.new, h.sl.kept hr.2 h.gs (by intro e; injection e with e; have := h.lt; omega), grownBy_trans h.gr hr.2⟩

theorem DSt.store {B P : Nat} {w0 w w' : World} {g off : Nat} {xs ys : List Sl} (h : DSt B P w0 w g off xs) (hs : SlotsW w' g off ys) (hg : w.grownBy w' (some g)) : DSt B P w0 w' g off ys := by
  have hne : ∀ k, k ≤ B → w'.heap[k]? = w.heap[k]? := fun k hk => hg.block k (by have := h.rd.lt; omega) (by intro e; injection e with e; have := h.lt; omega)
  refine ⟨h.rd.kept (fun q hq => World.cell?_of_block (w := w) (hne q.block hq)) (World.frozen?_of_block (w := w) (a := ⟨B, 1, none⟩) (hne B (Nat.le_refl _))), h.lt, Nat.lt_of_lt_of_le h.gs hg.size, h.new, hs, ?_⟩
  exact ⟨hg.os.trans h.gr.os, hg.tape.trans h.gr.tape, hg.output.trans h.gr.output, Nat.le_trans h.gr.size hg.size,
    fun k hk hn => (hg.block k (Nat.lt_of_lt_of_le hk h.gr.size) (by intro e; injection e with e; have := h.new; omega)).trans (h.gr.block k hk hn)⟩

theorem DSt.mono {B P Q : Nat} {w0 w : World} {g off : Nat} {xs : List Sl} (h : DSt B P w0 w g off xs) (hPQ : P ≤ Q) : DSt B Q w0 w g off xs := ⟨h.rd.mono hPQ, h.lt, h.gs, h.new, h.sl, h.gr⟩

theorem DSt.alloc {B P : Nat} {w0 w : World} {g off : Nat} {xs : List Sl} (h : DSt B P w0 w g off xs) (o : Obj) : DSt B P w0 (w.alloc o) g off xs :=
  ⟨h.rd.alloc o, h.lt, by have := h.gs; simp; omega, h.new, h.sl.kept (World.grownBy_alloc w o none) h.gs (by simp), grownBy_trans h.gr (World.grownBy_alloc w o _)⟩

theorem Bnd.fresh : Bnd 0 freshS := by
  intro i hi
  have h8 : i < 8 := hi
  obtain rfl | rfl | rfl | rfl | rfl | rfl | rfl | rfl : i = 0 ∨ i = 1 ∨ i = 2 ∨ i = 3 ∨ i = 4 ∨ i = 5 ∨ i = 6 ∨ i = 7 := by omega
  all_goals decide

theorem Bnd.set {lo : Int} {xs : List Sl} (h : Bnd lo xs) (j : Nat) (x : Sl) (hj : j < xs.length) (h1 : x.text.size ≤ 20) (h2 : lo ≤ x.uses) (h3 : x.uses ≤ 100) : Bnd lo (xs.set j x) := by
  intro i hi
  rw [List.length_set] at hi
  rw [nth_set _ _ _ _ hj]
  by_cases e : j = i
  · rw [if_pos e]; exact ⟨h1, h2, h3⟩
  · rw [if_neg e]; exact h i hi

theorem Bnd.put {xs : List Sl} (h : Bnd 0 xs) (t : ByteArray) (ht : t.size ≤ 20) (hl : xs.length = 8) : Bnd 0 (putS xs t).1 := by
  have hr := findS_range xs t
  unfold putS
  split
  · exact h
  · rename_i hn
    have hj : ((findS xs t).1 - 1).toNat < xs.length := by omega
    have hb := h _ hj
    exact h.set _ _ hj ht (by show 0 ≤ (nth xs _).uses + 1; omega) (by show (nth xs _).uses + 1 ≤ 100; omega)

theorem Bnd.drop {xs : List Sl} (h : Bnd 0 xs) (j : Nat) (hj : j < xs.length) (hu : 0 < (nth xs j).uses) : Bnd 0 (dropS xs j) := by
  have hb := h j hj
  unfold dropS
  split
  · exact h.set _ _ hj (by show 0 ≤ 20; omega) (by show 0 ≤ (nth xs j).uses - 1; omega) (by show (nth xs j).uses - 1 ≤ 100; omega)
  · exact h.set _ _ hj hb.1 (by show 0 ≤ (nth xs j).uses - 1; omega) (by show (nth xs j).uses - 1 ≤ 100; omega)

theorem Bnd.low {lo lo' : Int} {xs : List Sl} (h : Bnd lo xs) (hl : lo' ≤ lo) : Bnd lo' xs := fun i hi => ⟨(h i hi).1, by have := (h i hi).2.1; omega, (h i hi).2.2⟩

/-- No slot is used more than m times. -/
def Cnt (m : Int) (xs : List Sl) : Prop := ∀ i, i < xs.length → (nth xs i).uses ≤ m

theorem Cnt.fresh : Cnt 0 freshS := by
  intro i hi
  have h8 : i < 8 := hi
  obtain rfl | rfl | rfl | rfl | rfl | rfl | rfl | rfl : i = 0 ∨ i = 1 ∨ i = 2 ∨ i = 3 ∨ i = 4 ∨ i = 5 ∨ i = 6 ∨ i = 7 := by omega
  all_goals decide

theorem Cnt.mono {m m' : Int} {xs : List Sl} (h : Cnt m xs) (hm : m ≤ m') : Cnt m' xs := fun i hi => by have := h i hi; omega

theorem Cnt.set {m : Int} {xs : List Sl} (h : Cnt m xs) (j : Nat) (x : Sl) (hj : j < xs.length) (hx : x.uses ≤ m) : Cnt m (xs.set j x) := by
  intro i hi
  rw [List.length_set] at hi
  rw [nth_set _ _ _ _ hj]
  by_cases e : j = i
  · rw [if_pos e]; exact hx
  · rw [if_neg e]; exact h i hi

theorem Cnt.put {m : Int} {xs : List Sl} (h : Cnt m xs) (t : ByteArray) (hl : xs.length = 8) : Cnt (m + 1) (putS xs t).1 := by
  have hr := findS_range xs t
  unfold putS
  split
  · exact h.mono (by omega)
  · rename_i hn
    have hj : ((findS xs t).1 - 1).toNat < xs.length := by omega
    have hb := h _ hj
    exact (h.mono (by omega)).set _ _ hj (by show (nth xs _).uses + 1 ≤ m + 1; omega)

theorem Cnt.drop {m : Int} {xs : List Sl} (h : Cnt m xs) (j : Nat) (hj : j < xs.length) : Cnt m (dropS xs j) := by
  have hb := h j hj
  unfold dropS
  split
  · exact h.set _ _ hj (by show (nth xs j).uses - 1 ≤ m; omega)
  · exact h.set _ _ hj (by show (nth xs j).uses - 1 ≤ m; omega)

theorem nth_tail (xs : List Sl) (i : Nat) : nth xs.tail i = nth xs (i + 1) := by
  cases xs with
  | nil => simp [nth]
  | cons x r => simp [nth_succ]

theorem Bnd.tail {lo : Int} {xs : List Sl} (h : Bnd lo xs) : Bnd lo xs.tail := by
  intro i hi
  rw [List.length_tail] at hi
  rw [nth_tail]
  exact h (i + 1) (by omega)

theorem SlotsW.tail {w : World} {g off : Nat} {xs : List Sl} (h : SlotsW w g off xs) : SlotsW w g (off + 2) xs.tail := by
  refine ⟨fun i hi => ?_, h.2⟩
  rw [List.length_tail] at hi
  rw [nth_tail]
  have := h.1 (i + 1) (by omega)
  rw [show off + (i + 1) * 2 = off + 2 + i * 2 from by omega] at this
  exact this

theorem lit4 (w : World) (T : TypeId) (a b c d : Int) :
    (w.alloc (.cells #[.int .i64 a, .int .i64 b, .int .i64 c, .int .i64 d] T)).cell? ⟨w.heap.size, 0, none⟩ = some (.int .i64 a) ∧
    (w.alloc (.cells #[.int .i64 a, .int .i64 b, .int .i64 c, .int .i64 d] T)).cell? ⟨w.heap.size, 1, none⟩ = some (.int .i64 b) ∧
    (w.alloc (.cells #[.int .i64 a, .int .i64 b, .int .i64 c, .int .i64 d] T)).cell? ⟨w.heap.size, 2, none⟩ = some (.int .i64 c) ∧
    (w.alloc (.cells #[.int .i64 a, .int .i64 b, .int .i64 c, .int .i64 d] T)).cell? ⟨w.heap.size, 3, none⟩ = some (.int .i64 d) := by
  simp

end Go.Proofs.Ytaoaclmcmeaedaa

namespace Go.Proofs.Ytaoaclmcmeaedaa
open Go.RowKit

/-- A drawn slice of slots: new memory, small, to be written. -/
structure DR (w0 w : World) (g off n cap : Nat) (xs : List Sl) : Prop where
  len : xs.length = n
  lo : 7 ≤ n
  hi : n ≤ 8
  cap0 : n ≤ cap
  cap1 : cap ≤ 8
  bnd : Bnd (-1) xs
  gs : g < w.heap.size
  new : w0.heap.size ≤ g
  sl : SlotsW w g off xs
  bel : Below w0.heap.size w0 w

theorem DSt.done {P : Nat} {w0 w1 w : World} {g off n cap : Nat} {xs : List Sl} (h : DSt w0.heap.size P w1 w g off xs) (hb : Below w0.heap.size w0 w1) (h1 : xs.length = n) (h2 : 7 ≤ n) (h3 : n ≤ 8) (h4 : n ≤ cap) (h5 : cap ≤ 8) (h6 : Bnd (-1) xs) : DR w0 w g off n cap xs :=
  ⟨h1, h2, h3, h4, h5, h6, h.gs, Nat.le_trans hb.size h.new, h.sl, hb.grown h.gr hb.size (fun k e => by cases e; exact Nat.le_refl _)⟩

end Go.Proofs.Ytaoaclmcmeaedaa

namespace Go.Proofs.Ytaoaclmcmeaedaa
open Go.RowKit

theorem DSt.slv {B P : Nat} {w0 w : World} {g off n c : Nat} {xs : List Sl} (h : DSt B P w0 w g off xs) (hl : xs.length = n) (hn : n ≤ 8) : Slv w (.slice (some ⟨g, off, none⟩) n c) xs :=
  ⟨_, _, _, rfl, hl, by omega, .inr ⟨g, off, rfl, h.sl.1⟩⟩

theorem Bnd.fits {lo : Int} {xs : List Sl} (h : Bnd lo xs) : Fits xs := fun i hi => by have := (h i hi).1; unfold maxLen; omega

theorem DSt.drawn {B P : Nat} {w0 w w' : World} {g off : Nat} {xs : List Sl} (h : DSt B P w0 w g off xs) (hb : Below w.heap.size w w') : DSt B P w0 w' g off xs := by
  have hB := h.rd.lt
  refine ⟨h.rd.kept (fun q hq => hb.cell (by omega)) (hb.frozen (p := ⟨B, 1, none⟩) hB), h.lt, Nat.lt_of_lt_of_le h.gs hb.size, h.new, ⟨h.sl.1.below hb h.gs, fun o => (hb.frozen (p := ⟨g, o, none⟩) h.gs).trans (h.sl.2 o)⟩, ?_⟩
  exact ⟨hb.os.trans h.gr.os, hb.tape.trans h.gr.tape, hb.output.trans h.gr.output, Nat.le_trans h.gr.size hb.size, fun k hk hn => (hb.block k (Nat.lt_of_lt_of_le hk h.gr.size)).trans (h.gr.block k hk hn)⟩

theorem Bnd.putOk {xs : List Sl} (h : Bnd (-1) xs) (hs : storeB xs = true) (t : ByteArray) (ht : t.size ≤ 20) : Bnd (-1) (putS xs t).1 := by
  have hl := storeB_len hs
  have h0 : Bnd 0 xs := fun i hi => ⟨(h i hi).1, (okB_range (storeB_ok hs i (by omega))).1, (h i hi).2.2⟩
  exact (h0.put t ht hl).low (by omega)

/-- Some small slots in block g, and the reader. -/
def PutSt (m : Int) (B : Nat) (w1 : World) (g off : Nat) (W : World) : Prop := ∃ zs : List Sl, zs.length = 8 ∧ Bnd 0 zs ∧ Cnt m zs ∧ DSt B 201 w1 W g off zs

theorem PutSt.drew {m : Int} {B : Nat} {w1 : World} {g off : Nat} {W : World} (h : PutSt m B w1 g off W) : PutSt m B w1 g off W.drew := by
  obtain ⟨zs, h1, h2, hc, h3⟩ := h
  exact ⟨zs, h1, h2, hc, ⟨h3.rd, h3.lt, h3.gs, h3.new, h3.sl, ⟨h3.gr.os, h3.gr.tape, h3.gr.output, h3.gr.size, h3.gr.block⟩⟩⟩

end Go.Proofs.Ytaoaclmcmeaedaa
