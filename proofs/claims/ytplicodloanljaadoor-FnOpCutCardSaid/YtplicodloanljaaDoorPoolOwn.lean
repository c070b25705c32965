/- Disks that a call has made: the model's l3Copy. Slices of disks of a call's own: rows of names and blocks. Pools that are read: the model's l11At and l11Copy. -/
import Derived.Test.YtplicodloanljaaDoorVolArg
import Derived.Deep.RegionHeld3
import Derived.Deep.AppendLies
import Derived.Deep.RegionLaw
import Derived.OwnWalk
namespace Go.Proofs.YtplicodloanljaaDoor
open Go.RowKit
set_option linter.unusedVariables false
set_option maxRecDepth 100000

/-- A slice of blocks, not empty, in a block from B on, to be written. -/
def OwnBlk (B : Nat) (w : World) (v : Value) (bs : List Int) : Prop :=
  ∃ g cap, v = .slice (some ⟨g, 0, none⟩) bs.length cap ∧ B ≤ g ∧ g < w.heap.size ∧ bs.length ≤ cap ∧ 0 < bs.length ∧ IntsW w g bs

theorem cellI_one (bs : List Int) : ∀ u ∈ cellI bs, u.oneCell' = true := by
  intro u hu
  obtain ⟨b, _, rfl⟩ := List.mem_map.1 hu
  rfl

theorem cellI_len (bs : List Int) : (cellI bs).length = bs.length := by simp [cellI]

theorem intsAt_cells {w : World} {g off : Nat} {bs : List Int} (h : IntsAt w g off bs) : ∀ j u, (cellI bs)[j]? = some u → w.cell? ((⟨g, off, none⟩ : Addr).add j) = some u := by
  intro j u hj
  have hl : j < bs.length := by have := (List.getElem?_eq_some_iff.1 hj).1; rwa [cellI_len] at this
  rw [cellI_at bs j hl] at hj
  rw [add_lit, h j hl, hj]

theorem ownBlk_of {w : World} {base : Nat} {e : TypeId} {g n cap : Nat} {bs : List Int} (h : w.ownsRow base e 1 (.slice (some ⟨g, 0, none⟩) n cap) n (cellI bs)) (h0 : 0 < n) (hl : bs.length = n) : OwnBlk base w (.slice (some ⟨g, 0, none⟩) n cap) bs := by
  obtain ⟨g', cap', hv, hb, hlt, hc, hs⟩ := ints_of_own h h0 hl
  exact ⟨g', cap', by rw [hl]; exact hv, hb, hlt, by rw [hl]; exact hc, by rw [hl]; exact h0, hs⟩

theorem ownBlk_mono {B C : Nat} {w : World} {v : Value} {bs : List Int} (h : OwnBlk B w v bs) (hC : C ≤ B) : OwnBlk C w v bs := by
  obtain ⟨g, cap, hv, h1, h2⟩ := h
  exact ⟨g, cap, hv, Nat.le_trans hC h1, h2⟩

theorem ownBlk_setCell {B : Nat} {w : World} {v : Value} {bs : List Int} (h : OwnBlk B w v bs) (p : Addr) (hp : p.block < B) (u : Value) : OwnBlk B (w.setCell p u) v bs := by
  obtain ⟨g, cap, hv, h1, h2, h3, h4, h5⟩ := h
  exact ⟨g, cap, hv, h1, by simpa [World.setCell] using h2, h3, h4, intsW_kept h5 (grownBy_setCell w p u) h2 (fun e => by injection e; omega)⟩

theorem ownBlk_below {B C : Nat} {w w' : World} {v : Value} {bs : List Int} (h : OwnBlk B w v bs) (hb : Below C w w') (hC : w.heap.size ≤ C) : OwnBlk B w' v bs := by
  obtain ⟨g, cap, hv, h1, h2, h3, h4, h5⟩ := h
  exact ⟨g, cap, hv, h1, Nat.lt_of_lt_of_le h2 hb.size, h3, h4, intsW_below h5 hb (by omega)⟩

end Go.Proofs.YtplicodloanljaaDoor

namespace Go.Proofs.YtplicodloanljaaDoor
open Go.RowKit
set_option linter.unusedVariables false
set_option maxRecDepth 100000

/-- What lies in a slice of disks for one disk: its name, and its slice of blocks. -/
structure Rw where
  name : ByteArray
  val : Value

def Rw.none : Rw := ⟨⟨#[]⟩, .slice .none 0 0⟩

def rth (rs : List Rw) (i : Nat) : Rw := rs.getD i Rw.none

def cellR : List Rw → List Value
  | [] => []
  | r :: rs => .string r.name :: r.val :: cellR rs

def blkOf : Value → Nat
  | .slice (some a) _ _ => a.block
  | _ => 0

theorem cellR_len (rs : List Rw) : (cellR rs).length = rs.length * 2 := by
  induction rs with
  | nil => rfl
  | cons r rs ih => simp only [cellR, List.length_cons, ih]; omega

theorem rth_succ (r : Rw) (rs : List Rw) (i : Nat) : rth (r :: rs) (i + 1) = rth rs i := by simp [rth]

theorem cellR_name (rs : List Rw) : ∀ i, i < rs.length → (cellR rs)[i * 2]? = some (.string (rth rs i).name) := by
  induction rs with
  | nil => intro i hi; simp at hi
  | cons r rs ih =>
    intro i hi
    cases i with
    | zero => rfl
    | succ i =>
      rw [show (i + 1) * 2 = i * 2 + 1 + 1 from by omega, rth_succ]
      simp only [cellR, List.getElem?_cons_succ]
      exact ih i (by simpa using hi)

theorem cellR_val (rs : List Rw) : ∀ i, i < rs.length → (cellR rs)[i * 2 + 1]? = some (rth rs i).val := by
  induction rs with
  | nil => intro i hi; simp at hi
  | cons r rs ih =>
    intro i hi
    cases i with
    | zero => rfl
    | succ i =>
      rw [show (i + 1) * 2 + 1 = i * 2 + 1 + 1 + 1 from by omega, rth_succ]
      simp only [cellR, List.getElem?_cons_succ]
      exact ih i (by simpa using hi)

theorem cellR_append (rs qs : List Rw) : cellR (rs ++ qs) = cellR rs ++ cellR qs := by
  induction rs with
  | nil => rfl
  | cons r rs ih => simp [cellR, ih]

theorem rth_append_left (rs qs : List Rw) (i : Nat) (h : i < rs.length) : rth (rs ++ qs) i = rth rs i := by
  simp [rth, List.getD_eq_getElem?_getD, List.getElem?_append_left h]

theorem rth_append_at (rs : List Rw) (r : Rw) : rth (rs ++ [r]) rs.length = r := by
  simp [rth, List.getD_eq_getElem?_getD]

theorem vth_append_left (vs us : List Vo) (i : Nat) (h : i < vs.length) : vth (vs ++ us) i = vth vs i := by
  simp [vth, List.getD_eq_getElem?_getD, List.getElem?_append_left h]

theorem vth_append_at (vs : List Vo) (v : Vo) : vth (vs ++ [v]) vs.length = v := by
  simp [vth, List.getD_eq_getElem?_getD]

/-- The cells from (g, off) on hold rows. -/
def RowsAt (w : World) (g off : Nat) (rs : List Rw) : Prop :=
  ∀ i, i < rs.length → w.cell? ⟨g, off + i * 2, none⟩ = some (.string (rth rs i).name) ∧ w.cell? ⟨g, off + i * 2 + 1, none⟩ = some (rth rs i).val

theorem rowsAt_below {w w' : World} {B g off : Nat} {rs : List Rw} (h : RowsAt w g off rs) (hb : Below B w w') (hg : g < B) : RowsAt w' g off rs :=
  fun i hi => ⟨(hb.cell (p := ⟨g, off + i * 2, none⟩) hg).trans (h i hi).1, (hb.cell (p := ⟨g, off + i * 2 + 1, none⟩) hg).trans (h i hi).2⟩

theorem rowsAt_lt {w : World} {g off : Nat} {rs : List Rw} (h : RowsAt w g off rs) (hn : 0 < rs.length) : g < w.heap.size :=
  World.block_lt_of_cell? w ⟨g, off + 0 * 2, none⟩ (h 0 hn).1

/-- A row of a disk of the call's own; v: the slice of disks. -/
def RowOk (B : Nat) (w : World) (v : Value) (r : Rw) (x : Vo) : Prop :=
  r.name = x.name ∧ ∃ gb cap, r.val = .slice (some ⟨gb, 0, none⟩) x.blocks.length cap ∧ B ≤ gb ∧ gb < w.heap.size ∧ x.blocks.length ≤ cap ∧ 0 < x.blocks.length ∧ IntsW w gb x.blocks ∧ v.ownBlock ≠ some gb

structure OwnVR (B : Nat) (w : World) (v : Value) (rs : List Rw) (vs : List Vo) : Prop where
  arr : w.ownsRow B 179 2 v vs.length (cellR rs)
  len : rs.length = vs.length
  row : ∀ i, i < vs.length → RowOk B w v (rth rs i) (vth vs i)
  apart : ∀ i j, i < j → j < vs.length → blkOf (rth rs i).val ≠ blkOf (rth rs j).val

theorem RowOk.one {B : Nat} {w : World} {v : Value} {r : Rw} {x : Vo} (h : RowOk B w v r x) : ∃ gb n cap, r.val = .slice (some ⟨gb, 0, none⟩) n cap := by
  obtain ⟨_, gb, cap, hv, _⟩ := h
  exact ⟨gb, _, cap, hv⟩

theorem RowOk.kept {B : Nat} {w w' : World} {v v' : Value} {r : Rw} {x : Vo} (h : RowOk B w v r x) (hg : w.grownBy w' v.ownBlock) (hv : v'.ownBlock = v.ownBlock ∨ ∃ g, v'.ownBlock = some g ∧ w.heap.size ≤ g) : RowOk B w' v' r x := by
  obtain ⟨hn, gb, cap, e, h1, h2, h3, h4, h5, h6⟩ := h
  refine ⟨hn, gb, cap, e, h1, Nat.lt_of_lt_of_le h2 hg.size, h3, h4, intsW_kept h5 hg h2 (Ne.symm h6), ?_⟩
  rcases hv with hv | ⟨g, hv, hl⟩
  · rw [hv]; exact h6
  · rw [hv]; intro e2; injection e2; omega

theorem RowOk.below {B C : Nat} {w w' : World} {v : Value} {r : Rw} {x : Vo} (h : RowOk B w v r x) (hb : Below C w w') (hC : w.heap.size ≤ C) : RowOk B w' v r x := by
  obtain ⟨hn, gb, cap, e, h1, h2, h3, h4, h5, h6⟩ := h
  exact ⟨hn, gb, cap, e, h1, Nat.lt_of_lt_of_le h2 hb.size, h3, h4, intsW_below h5 hb (by omega), h6⟩

theorem arr_below {B C : Nat} {w w' : World} {e : TypeId} {v : Value} {n : Nat} {xs : List Value} (h : w.ownsRow B e 2 v n xs) (hb : Below C w w') (hC : w.heap.size ≤ C) : w'.ownsRow B e 2 v n xs := by
  refine ⟨h.1, ?_⟩
  rcases h.2 with h2 | ⟨g, cap, cur, hv, h3, h4, h5⟩
  · exact .inl h2
  · have hlt : g < w.heap.size := (Array.getElem?_eq_some_iff.1 h4).1
    exact .inr ⟨g, cap, cur, hv, h3, (hb.block g (by omega)).trans h4, h5⟩

theorem OwnVR.below {B C : Nat} {w w' : World} {v : Value} {rs : List Rw} {vs : List Vo} (h : OwnVR B w v rs vs) (hb : Below C w w') (hC : w.heap.size ≤ C) : OwnVR B w' v rs vs :=
  ⟨arr_below h.arr hb hC, h.len, fun i hi => (h.row i hi).below hb hC, h.apart⟩

theorem OwnVR.rows {B : Nat} {w : World} {v : Value} {rs : List Rw} {vs : List Vo} (h : OwnVR B w v rs vs) (hn : 0 < vs.length) : ∃ g cap, v = .slice (some ⟨g, 0, none⟩) vs.length cap ∧ B ≤ g ∧ g < w.heap.size ∧ vs.length ≤ cap ∧ RowsAt w g 0 rs ∧ ∀ o, w.frozen? ⟨g, o, none⟩ = false := by
  rcases h.arr.2 with ⟨_, h'⟩ | ⟨g, cap, cur, rfl, hb, hcells, hcap, _⟩
  · omega
  have hlt : g < w.heap.size := (Array.getElem?_eq_some_iff.1 hcells).1
  refine ⟨g, cap, rfl, hb, hlt, hcap, fun i hi => ⟨?_, ?_⟩, fun o => h.arr.frozenAt o⟩
  · rw [Nat.zero_add, h.arr.cellAt _ (by rw [h.len] at hi; omega), cellR_name rs i hi]
  · rw [Nat.zero_add, h.arr.cellAt _ (by rw [h.len] at hi; omega), cellR_val rs i hi]

theorem arr_at {B : Nat} {w : World} {e : TypeId} {v : Value} {n : Nat} {xs : List Value} (h : w.ownsRow B e 2 v n xs) (g : Nat) (hg : v.ownBlock = some g) : B ≤ g ∧ g < w.heap.size := by
  rcases h.2 with ⟨rfl, _⟩ | ⟨g', cap, cur, rfl, h3, h4, _⟩
  · cases hg
  · injection hg with hg
    subst hg
    exact ⟨h3, (Array.getElem?_eq_some_iff.1 h4).1⟩

theorem arr_slice {B : Nat} {w : World} {e : TypeId} {v : Value} {n : Nat} {xs : List Value} (h : w.ownsRow B e 2 v n xs) : ∃ a m c, v = .slice a m c := by
  rcases h.2 with ⟨rfl, _⟩ | ⟨g', cap, cur, rfl, _⟩ <;> exact ⟨_, _, _, rfl⟩

theorem OwnVR.blk_lt {B : Nat} {w : World} {v : Value} {rs : List Rw} {vs : List Vo} (h : OwnVR B w v rs vs) (i : Nat) (hi : i < vs.length) : B ≤ blkOf (rth rs i).val ∧ blkOf (rth rs i).val < w.heap.size := by
  obtain ⟨_, gb, cap, e, h1, h2, _⟩ := h.row i hi
  rw [e]; exact ⟨h1, h2⟩

theorem RowOk.setCell {B : Nat} {w : World} {v : Value} {r : Rw} {x : Vo} (h : RowOk B w v r x) (p : Addr) (hp : p.block < B) (u : Value) : RowOk B (w.setCell p u) v r x := by
  obtain ⟨hn, gb, cap, e, h1, h2, h3, h4, h5, h6⟩ := h
  exact ⟨hn, gb, cap, e, h1, by simpa [World.setCell] using h2, h3, h4, intsW_kept h5 (grownBy_setCell w p u) h2 (fun e => by injection e; omega), h6⟩

theorem OwnVR.setCell {B : Nat} {w : World} {v : Value} {rs : List Rw} {vs : List Vo} (h : OwnVR B w v rs vs) (p : Addr) (hp : p.block < B) (u : Value) : OwnVR B (w.setCell p u) v rs vs :=
  ⟨ownsRow_setCell_below h.arr hp u, h.len, fun i hi => (h.row i hi).setCell p hp u, h.apart⟩

theorem OwnVR.mono {B C : Nat} {w : World} {v : Value} {rs : List Rw} {vs : List Vo} (h : OwnVR B w v rs vs) (hC : C ≤ B) : OwnVR C w v rs vs := by
  refine ⟨⟨h.arr.1, ?_⟩, h.len, fun i hi => ?_, h.apart⟩
  · rcases h.arr.2 with h2 | ⟨g, cap, cur, hv, h3, h4⟩
    · exact .inl h2
    · exact .inr ⟨g, cap, cur, hv, Nat.le_trans hC h3, h4⟩
  · obtain ⟨hn, gb, cap, e, h1, h2⟩ := h.row i hi
    exact ⟨hn, gb, cap, e, Nat.le_trans hC h1, h2⟩

theorem infoVol : (Tryd.prog.info? 179).map (fun i => (i.zero, i.size, i.bytes)) = some (some (.agg #[.string ⟨#[]⟩, .slice none 0 0]), 2, 40) := by kernel_rfl

end Go.Proofs.YtplicodloanljaaDoor

namespace Go.Proofs.YtplicodloanljaaDoor
open Go.RowKit
set_option linter.unusedVariables false
set_option maxRecDepth 100000

/-- A row that is read. -/
def RdRow (w : World) (r : Rw) (x : Vo) : Prop := r.name = x.name ∧ Intv w r.val x.blocks ∧ x.name.size ≤ maxLen

/-- A slice of disks that is read. -/
def RdV (w : World) (a : Option Addr) (n c : Nat) (vs : List Vo) : Prop :=
  vs.length = n ∧ n ≤ 2000000 ∧ (vs = [] ∨ ∃ g off rs, a = some ⟨g, off, none⟩ ∧ rs.length = n ∧ RowsAt w g off rs ∧ ∀ i, i < n → RdRow w (rth rs i) (vth vs i))

theorem rdV_below {w w' : World} {B : Nat} {a : Option Addr} {n c : Nat} {vs : List Vo} (h : RdV w a n c vs) (hb : Below B w w') (hB : w.heap.size ≤ B) : RdV w' a n c vs := by
  obtain ⟨h1, h2, h3⟩ := h
  refine ⟨h1, h2, ?_⟩
  rcases h3 with h3 | ⟨g, off, rs, ha, hl, hr, hx⟩
  · exact .inl h3
  · by_cases h0 : 0 < n
    · exact .inr ⟨g, off, rs, ha, hl, rowsAt_below hr hb (by have := rowsAt_lt hr (by omega); omega), fun i hi => ⟨(hx i hi).1, intv_below (hx i hi).2.1 hb hB, (hx i hi).2.2⟩⟩
    · exact .inl (List.eq_nil_of_length_eq_zero (by omega))

theorem rdV_at {w : World} {a : Option Addr} {n c : Nat} {vs : List Vo} (h : RdV w a n c vs) (i : Nat) (hi : i < n) :
    ∃ g off rs, a = some ⟨g, off, none⟩ ∧ rs.length = n ∧ RowsAt w g off rs ∧ ∀ i, i < n → RdRow w (rth rs i) (vth vs i) := by
  obtain ⟨h1, h2, h3⟩ := h
  rcases h3 with h3 | h3
  · subst h3; simp at h1; omega
  · exact h3

theorem vth_take (vs : List Vo) (k i : Nat) (h : i < k) : vth (vs.take k) i = vth vs i := by
  simp [vth, List.getD_eq_getElem?_getD, List.getElem?_take_of_lt h]

theorem take_vo (vs : List Vo) (k : Nat) (hk : k < vs.length) : vs.take (k + 1) = vs.take k ++ [vth vs k] := by
  rw [List.take_succ_eq_append_getElem hk, vth_get _ _ hk]

end Go.Proofs.YtplicodloanljaaDoor
