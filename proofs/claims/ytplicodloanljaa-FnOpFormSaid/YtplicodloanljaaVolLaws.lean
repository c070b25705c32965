/- What the laws' own helpers on disks answer. -/
import Derived.Test.YtplicodloanljaaVolText
import Derived.Deep.QuietTactic
import Derived.BigQuiet
namespace Go.Proofs.Ytplicodloanljaa
open Go.RowKit
set_option linter.unusedVariables false
set_option maxRecDepth 100000

/-- The cells of block g hold the blocks bs, and may be written. -/
def IntsW (w : World) (g : Nat) (bs : List Int) : Prop := IntsAt w g 0 bs ∧ ∀ o, w.frozen? ⟨g, o, none⟩ = false

def NewInt (B : Nat) (w : World) (v : Value) (bs : List Int) : Prop :=
  (bs = [] ∧ ∃ a c, v = .slice a 0 c) ∨ ∃ g cap, v = .slice (some ⟨g, 0, none⟩) bs.length cap ∧ B ≤ g ∧ g < w.heap.size ∧ bs.length ≤ cap ∧ IntsW w g bs

theorem newInt_v {B : Nat} {w : World} {v : Value} {bs : List Int} (h : NewInt B w v bs) (hl : bs.length ≤ 2000000) : Intv w v bs := by
  rcases h with ⟨rfl, a, c, rfl⟩ | ⟨g, cap, rfl, _, _, _, hs⟩
  · exact ⟨a, 0, c, rfl, rfl, by omega, .inl rfl⟩
  · exact ⟨_, _, _, rfl, rfl, hl, .inr ⟨g, 0, rfl, hs.1⟩⟩

theorem newInt_mono {B C : Nat} {w : World} {v : Value} {bs : List Int} (h : NewInt B w v bs) (hC : C ≤ B) : NewInt C w v bs := by
  rcases h with h | ⟨g, cap, hv, h1, h2⟩
  · exact .inl h
  · exact .inr ⟨g, cap, hv, Nat.le_trans hC h1, h2⟩

theorem intsW_below {w w' : World} {g B : Nat} {bs : List Int} (h : IntsW w g bs) (hb : Below B w w') (hg : g < B) : IntsW w' g bs :=
  ⟨intsAt_below h.1 hb hg, fun o => (hb.frozen (p := ⟨g, o, none⟩) hg).trans (h.2 o)⟩

theorem newInt_below {B C : Nat} {w w' : World} {v : Value} {bs : List Int} (h : NewInt B w v bs) (hb : Below C w w') (hC : w.heap.size ≤ C) : NewInt B w' v bs := by
  rcases h with h | ⟨g, cap, hv, h1, h2, h3, h4⟩
  · exact .inl h
  · exact .inr ⟨g, cap, hv, h1, Nat.lt_of_lt_of_le h2 hb.size, h3, intsW_below h4 hb (by omega)⟩

theorem bth_set (bs : List Int) (i j : Nat) (x : Int) (h : i < bs.length) : bth (bs.set i x) j = if i = j then x else bth bs j := by
  unfold bth
  rw [List.getD_eq_getElem?_getD, List.getD_eq_getElem?_getD, List.getElem?_set]
  by_cases e : i = j
  · subst e; simp [h]
  · simp [e]

theorem intsW_set {w : World} {g : Nat} {bs : List Int} (h : IntsW w g bs) (i : Nat) (hi : i < bs.length) (x : Int) :
    IntsW (w.setCell ⟨g, i, none⟩ (.int .i64 x)) g (bs.set i x) := by
  refine ⟨fun j hj => ?_, fun o => by rw [World.frozen?_setCell]; exact h.2 o⟩
  rw [List.length_set] at hj
  rw [bth_set _ _ _ _ hi]
  have h1 := h.1 j hj
  rw [Nat.zero_add] at h1 ⊢
  by_cases e : i = j
  · subst e; rw [if_pos rfl]; exact cell_same _ _ _ _ h1
  · rw [if_neg e]; exact (cell_other _ _ _ _ (ne_off _ _ _ (by omega))).trans h1

theorem intsW_kept {w w' : World} {g : Nat} {bs : List Int} (h : IntsW w g bs) {r : Option Nat} (hg : w.grownBy w' r) (hl : g < w.heap.size) (hn : some g ≠ r) : IntsW w' g bs :=
  ⟨fun i hi => (World.cell?_of_block (w := w) (a := ⟨g, 0 + i, none⟩) (hg.block g hl hn)).trans (h.1 i hi), fun o => (World.frozen?_of_block (w := w) (a := ⟨g, o, none⟩) (hg.block g hl hn)).trans (h.2 o)⟩

theorem ints_ext (bs cs : List Int) (hl : bs.length = cs.length) (h : ∀ i, i < bs.length → bth bs i = bth cs i) : bs = cs := by
  apply List.ext_getElem hl
  intro i h1 h2
  rw [← bth_get bs i h1, ← bth_get cs i h2]
  exact h i h1

def cellI (bs : List Int) : List Value := bs.map (fun b => .int .i64 b)

theorem cellI_at (bs : List Int) (i : Nat) (h : i < bs.length) : (cellI bs)[i]? = some (.int .i64 (bth bs i)) := by
  simp [cellI, List.getElem?_eq_getElem h, bth_get _ _ h]

theorem ints_of_own {w : World} {base : Nat} {e : TypeId} {v : Value} {n : Nat} {bs : List Int} (h : w.ownsRow base e 1 v n (cellI bs)) (hn : 0 < n) (hl : bs.length = n) :
    ∃ g cap, v = .slice (some ⟨g, 0, none⟩) n cap ∧ base ≤ g ∧ g < w.heap.size ∧ n ≤ cap ∧ IntsW w g bs := by
  rcases h.2 with ⟨_, h'⟩ | ⟨g, cap, cur, rfl, hb, hcells, hcap, _⟩
  · omega
  have hlt : g < w.heap.size := (Array.getElem?_eq_some_iff.1 hcells).1
  refine ⟨g, cap, rfl, hb, hlt, hcap, fun i hi => ?_, fun o => h.frozenAt o⟩
  rw [Nat.zero_add, h.cellAt _ (by omega), cellI_at bs i hi]

theorem madeInts (n : Nat) : (madeCells (Value.int .i64 0).cells (n * 1)).toList = cellI (List.replicate n 0) := by
  apply List.ext_getElem?
  intro j
  have hc : (Value.int .i64 0).cells = #[.int .i64 0] := by kernel_rfl
  rw [hc]
  by_cases hj : j < n
  · rw [cellI_at _ j (by simpa using hj)]
    simp [madeCells, hj, bth, List.getD_eq_getElem?_getD, Nat.mod_one]
  · have h2 : (cellI (List.replicate n 0)).length = n := by simp [cellI]
    have h3 : (madeCells #[Value.int .i64 0] (n * 1)).toList.length = n := by rw [Array.length_toList, size_madeCells]; omega
    rw [List.getElem?_eq_none (by omega), List.getElem?_eq_none (by omega)]

theorem Try.infoI : (Try.prog.info? 3).map (fun i => (i.zero, i.size, i.bytes)) = some (some (.int .i64 0), 1, 8) := by kernel_rfl

/-- make([]int, n). -/
theorem make_ints (W : World) (n : Nat) (hn : n ≤ 2000000) : ∃ w2, (Instr.makeSlice 83 (.int .i64 (n : Int)) (.int .i64 (n : Int))).run Try.prog W = .ok (.slice (some ⟨W.heap.size, 0, none⟩) n n) w2 ∧ W.heap.size < w2.heap.size ∧ IntsW w2 W.heap.size (List.replicate n 0) ∧ W.grownBy w2 none := by
  obtain ⟨i0, hi, hz0, hz1, hz2⟩ := info_parts Try.infoI
  have hrun := run_make_full (P := Try.prog) W W.heap.size 83 3 i0 (.int .i64 0) 1 Try.underlying83 hi hz0 hz1 .i64 .i64 n (by rw [hz2]; omega) (by unfold maxLen; omega) (Nat.le_refl _)
  obtain ⟨w2, hr, ho, hg⟩ := hrun
  rw [madeInts n] at ho
  refine ⟨w2, hr, ?_⟩
  rcases ho.2 with ⟨hv, _⟩ | ⟨g, cap, cur, hv, hb, hcells, hcap, _⟩
  · cases hv
  · simp only [Value.slice.injEq, Option.some.injEq, Addr.mk.injEq, and_true] at hv
    obtain ⟨rfl, _⟩ := hv
    refine ⟨(Array.getElem?_eq_some_iff.1 hcells).1, ⟨fun i hi => ?_, fun o => ho.frozenAt o⟩, hg⟩
    rw [List.length_replicate] at hi
    rw [Nat.zero_add, ho.cellAt _ (by omega), cellI_at _ i (by simpa using hi)]

/-- Two lists of blocks are the same, as far as k. -/
def sameI (bs cs : List Int) (k : Nat) : Bool := (List.range k).all fun i => bth bs i == bth cs i

def sameIs (bs cs : List Int) : Bool := decide (bs.length = cs.length) && sameI bs cs bs.length

end Go.Proofs.Ytplicodloanljaa
