/- The model's l12Do: a change is done to a pool. -/
import Derived.Test.YtgogokahpmljbaaPoolOp
namespace Go.Proofs.Ytgogokahpmljbaa
open Go.RowKit
set_option linter.unusedVariables false
set_option maxRecDepth 100000

/-- l12Do. -/
def doF (p : Po) (o : Ov) : Po × Bool :=
  if o.kind = 1 then makeF p o.name o.num else if o.kind = 2 then writeF p o.name o.num o.text else if o.kind = 3 then cloneF p o.name o.dest else goneF p o.name

theorem doF_ok {p : Po} (h : PoolR p) (o : Ov) : PoolR (doF p o).1 := by
  unfold doF
  split
  · exact makeF_ok h _ _
  · split
    · exact writeF_ok h _ _ _
    · split
      · exact cloneF_ok h _ _
      · exact goneF_ok h _

/-- A block that holds a pool's two slices is none of a pool's own. -/
theorem OwnP.notBox {B : Nat} {W : World} {g c : Nat} {v : Value} {rs : List Rw} {p : Po} (h : OwnP B W g c v rs p) (hP : PoolR p) {b : Nat} (hb : W.heap[b]? = some (.cells #[.slice none 0 0, .slice none 0 0] 50)) :
    b ≠ g ∧ v.ownBlock ≠ some b ∧ ∀ i, i < p.vols.length → blkOf (rth rs i).val ≠ b := by
  have c0 : W.cell? ⟨b, 0, none⟩ = some (.slice none 0 0) := by rw [cell_of_row _ _ _ _ _ _ hb]; rfl
  refine ⟨fun e => ?_, fun e => ?_, fun i hi e => ?_⟩
  · subst e
    have h0 := (h.sl.1.at0 0 (by rw [storeB_len hP.store]; omega)).1
    rw [Nat.zero_mul, c0] at h0
    cases h0
  · rcases h.vols.arr.2 with ⟨rfl, _⟩ | ⟨g7, cap, cur, rfl, _, hgb, _⟩
    · simp [Value.ownBlock] at e
    · obtain rfl : g7 = b := by simpa [Value.ownBlock] using e
      rw [hb] at hgb
      injection hgb with hgb
      injection hgb with _ ht
      exact absurd ht (by decide)
  · obtain ⟨_, gb, cb, hv, h1, h2, h3, h4, h5, _⟩ := h.vols.row i hi
    rw [hv] at e
    have e2 : gb = b := e
    subst e2
    have hlen := (hP.vol hi).2.2.1
    have h0 := h5.1 0 (by omega)
    rw [Nat.add_zero, c0] at h0
    cases h0

theorem do_box {B gs cs : Nat} {w W3 W4 : World} {v : Value} {rs : List Rw} {p : Po} (hO : OwnP B w gs cs v rs p) (hs : W3.heap.size = w.heap.size + 1 + 1 + 1) (hg : W3.grownBy W4 (some gs)) (hres : W3.heap[w.heap.size + 1 + 1]? = some (.cells #[.slice none 0 0, .slice none 0 0] 50)) :
    W4.cell? ⟨w.heap.size + 1 + 1, 0, none⟩ = some (.slice none 0 0) ∧ W4.cell? ⟨w.heap.size + 1 + 1, 1, none⟩ = some (.slice none 0 0) ∧ W4.frozen? ⟨w.heap.size + 1 + 1, 0, none⟩ = false ∧ W4.frozen? ⟨w.heap.size + 1 + 1, 1, none⟩ = false := by
  have h4 : W4.heap[w.heap.size + 1 + 1]? = some (.cells #[.slice none 0 0, .slice none 0 0] 50) := (hg.block _ (by omega) (fun e => by injection e with e; have := hO.lt; omega)).trans hres
  exact ⟨by rw [cell_of_row _ _ _ _ _ _ h4]; rfl, by rw [cell_of_row _ _ _ _ _ _ h4]; rfl, by unfold World.frozen?; rw [h4]; simp, by unfold World.frozen?; rw [h4]; simp⟩

theorem do_fin {B gs cs : Nat} {w W3 W4 : World} {v v2 : Value} {rs rs2 : List Rw} {p q : Po} {g2 c2 : Nat} (hO : OwnP B w gs cs v rs p) (hB : B ≤ w.heap.size) (hb3 : Below w.heap.size w W3) (hs : W3.heap.size = w.heap.size + 1 + 1 + 1) (hO4 : OwnP B W4 g2 c2 v2 rs2 q) (hQ : PoolR q) (hg : W3.grownBy W4 (some gs)) (hres : W3.heap[w.heap.size + 1 + 1]? = some (.cells #[.slice none 0 0, .slice none 0 0] 50)) (u1 u2 : Value) :
    OwnP B ((W4.setCell ⟨w.heap.size + 1 + 1, 0, none⟩ u1).setCell ⟨w.heap.size + 1 + 1, 1, none⟩ u2) g2 c2 v2 rs2 q ∧ w.grownBy ((W4.setCell ⟨w.heap.size + 1 + 1, 0, none⟩ u1).setCell ⟨w.heap.size + 1 + 1, 1, none⟩ u2) (some gs) := by
  have h4 : W4.heap[w.heap.size + 1 + 1]? = some (.cells #[.slice none 0 0, .slice none 0 0] 50) := (hg.block _ (by omega) (fun e => by injection e with e; have := hO.lt; omega)).trans hres
  obtain ⟨n1, n2, n3⟩ := hO4.notBox hQ h4
  exact ⟨(hO4.setFar ⟨w.heap.size + 1 + 1, 0, none⟩ n1 n2 n3 u1).setFar ⟨w.heap.size + 1 + 1, 1, none⟩ n1 n2 n3 u2, grown_set (grown_set (grownBy_trans (grown_below hb3) hg) _ (by simp; omega) _) _ (by simp; omega) _⟩

set_option maxHeartbeats 1600000 in
theorem l12Make_do (gs cs : Nat) (a : Option Addr) (n c B : Nat) (rs : List Rw) (p : Po) (nm dst : ByteArray) (num : Int) (t : ByteArray) (w : World) (hO : OwnP B w gs cs (.slice a n c) rs p) (hP : PoolR p) (h1 : nm.size ≤ maxLen) (h2 : dst.size ≤ maxLen) (h3 : t.size ≤ maxLen) (hB : B ≤ w.heap.size) :
    Calls Try.prog 36 #[.agg #[.slice (some ⟨gs, 0, none⟩) 8 cs, .slice a n c], (Ov.mk 1 nm dst num t).val] w fun e w' => ∃ g2 c2 v' rs', e = .returned (.tuple #[.agg #[.slice (some ⟨g2, 0, none⟩) 8 c2, v'], .bool (doF p ⟨1, nm, dst, num, t⟩).2]) ∧
      OwnP B w' g2 c2 v' rs' (doF p ⟨1, nm, dst, num, t⟩).1 ∧ w.grownBy w' (some gs) := by
  have hl := own_len hO.vols
  have h4 := hP.len4
  have n0 := new_cells w #[.slice (some ⟨gs, 0, none⟩) 8 cs, .slice a n c] 50
  have n1 := new_cells (w.alloc (.cells #[.slice (some ⟨gs, 0, none⟩) 8 cs, .slice a n c] 50)) #[.int .i64 1, .string nm, .string dst, .int .i64 num, .string t] 75
  have n2 := new_cells ((w.alloc (.cells #[.slice (some ⟨gs, 0, none⟩) 8 cs, .slice a n c] 50)).alloc (.cells #[.int .i64 1, .string nm, .string dst, .int .i64 num, .string t] 75)) #[.slice none 0 0, .slice none 0 0] 50
  have o0 := fun i => (old_cells ((w.alloc (.cells #[.slice (some ⟨gs, 0, none⟩) 8 cs, .slice a n c] 50)).alloc (.cells #[.int .i64 1, .string nm, .string dst, .int .i64 num, .string t] 75)) (.cells #[.slice none 0 0, .slice none 0 0] 50) w.heap.size i (by simp; omega)).1.trans (old_cells (w.alloc (.cells #[.slice (some ⟨gs, 0, none⟩) 8 cs, .slice a n c] 50)) (.cells #[.int .i64 1, .string nm, .string dst, .int .i64 num, .string t] 75) w.heap.size i (by simp)).1
  have o1 := fun i => (old_cells ((w.alloc (.cells #[.slice (some ⟨gs, 0, none⟩) 8 cs, .slice a n c] 50)).alloc (.cells #[.int .i64 1, .string nm, .string dst, .int .i64 num, .string t] 75)) (.cells #[.slice none 0 0, .slice none 0 0] 50) (w.heap.size + 1) i (by simp)).1
  simp only [World.size_alloc] at n1 n2
  have a0 := (o0 0).trans (n0.1 0)
  have a1 := (o0 1).trans (n0.1 1)
  have b0 := (o1 0).trans (n1.1 0)
  have b1 := (o1 1).trans (n1.1 1)
  have b2 := (o1 2).trans (n1.1 2)
  have b3 := (o1 3).trans (n1.1 3)
  have b4 := (o1 4).trans (n1.1 4)
  have hres : (((w.alloc (.cells #[.slice (some ⟨gs, 0, none⟩) 8 cs, .slice a n c] 50)).alloc (.cells #[.int .i64 1, .string nm, .string dst, .int .i64 num, .string t] 75)).alloc (.cells #[.slice none 0 0, .slice none 0 0] 50)).heap[w.heap.size + 1 + 1]? = some (.cells #[.slice none 0 0, .slice none 0 0] 50) := by
    have := heap_alloc_new ((w.alloc (.cells #[.slice (some ⟨gs, 0, none⟩) 8 cs, .slice a n c] 50)).alloc (.cells #[.int .i64 1, .string nm, .string dst, .int .i64 num, .string t] 75)) (.cells #[.slice none 0 0, .slice none 0 0] 50)
    simpa only [World.size_alloc] using this
  have hb3 : Below w.heap.size w (((w.alloc (.cells #[.slice (some ⟨gs, 0, none⟩) 8 cs, .slice a n c] 50)).alloc (.cells #[.int .i64 1, .string nm, .string dst, .int .i64 num, .string t] 75)).alloc (.cells #[.slice none 0 0, .slice none 0 0] 50)) := (((Below.refl _ _).alloc (Nat.le_refl _) _).alloc (by simp) _).alloc (by simp; omega) _
  have hO3 := hO.below hb3 (Nat.le_refl _)
  have hs3 : (((w.alloc (.cells #[.slice (some ⟨gs, 0, none⟩) 8 cs, .slice a n c] 50)).alloc (.cells #[.int .i64 1, .string nm, .string dst, .int .i64 num, .string t] 75)).alloc (.cells #[.slice none 0 0, .slice none 0 0] 50)).heap.size = w.heap.size + 1 + 1 + 1 := by simp
  have hd : doF p ⟨1, nm, dst, num, t⟩ = makeF p nm num := rfl
  have hDO := doF_ok hP ⟨1, nm, dst, num, t⟩
  rw [hd] at hDO ⊢
  have HC : Hid (Calls Try.prog 43 #[.agg #[.slice (some ⟨gs, 0, none⟩) 8 cs, .slice a n c], .string nm, .int .i64 num] (((w.alloc (.cells #[.slice (some ⟨gs, 0, none⟩) 8 cs, .slice a n c] 50)).alloc (.cells #[.int .i64 1, .string nm, .string dst, .int .i64 num, .string t] 75)).alloc (.cells #[.slice none 0 0, .slice none 0 0] 50)) fun e W4 => ∃ g2 c2 ta tn tc rs', e = .returned (.tuple #[.agg #[.slice (some ⟨g2, 0, none⟩) 8 c2, .slice ta tn tc], .bool (makeF p nm num).2]) ∧
      OwnP B W4 g2 c2 (.slice ta tn tc) rs' (makeF p nm num).1 ∧ (((w.alloc (.cells #[.slice (some ⟨gs, 0, none⟩) 8 cs, .slice a n c] 50)).alloc (.cells #[.int .i64 1, .string nm, .string dst, .int .i64 num, .string t] 75)).alloc (.cells #[.slice none 0 0, .slice none 0 0] 50)).grownBy W4 (some gs)) := Lib.hid (by
    refine (l11Make_any (some ⟨gs, 0, none⟩) 8 cs a n c B rs p.vols nm num (((w.alloc (.cells #[.slice (some ⟨gs, 0, none⟩) 8 cs, .slice a n c] 50)).alloc (.cells #[.int .i64 1, .string nm, .string dst, .int .i64 num, .string t] 75)).alloc (.cells #[.slice none 0 0, .slice none 0 0] 50)) hO3.vols (by omega) hP.vols h1 (by omega)).mono ?_
    rintro e W4 ⟨v4, rs4, rfl, hV4, hb4, hq4, hr4⟩
    obtain ⟨ta, tn, tc, rfl⟩ := arr_slice hV4.arr
    have e2 := makeF_v p nm num
    rw [e2]
    refine ⟨gs, cs, ta, tn, tc, rs4, rfl, ⟨hO3.low, Nat.lt_of_lt_of_le hO3.lt hb4.size, hO3.cap, hO3.sl.below hb4 hO3.lt, hV4, fun e => ?_, fun i hi => ?_⟩, grown_below hb4⟩
    · rcases hq4 gs e with h | h
      · exact hO3.farV h
      · have := hO3.lt; omega
    · rcases hr4 i hi with ⟨j, hj, e⟩ | e
      · rw [e]; exact hO3.farR j hj
      · have := hO3.lt; omega)
  have HFIN := Lib.hid (fun W4 g2 c2 v2 rs2 (hO4 : OwnP B W4 g2 c2 v2 rs2 (makeF p nm num).1) (hg : (((w.alloc (.cells #[.slice (some ⟨gs, 0, none⟩) 8 cs, .slice a n c] 50)).alloc (.cells #[.int .i64 1, .string nm, .string dst, .int .i64 num, .string t] 75)).alloc (.cells #[.slice none 0 0, .slice none 0 0] 50)).grownBy W4 (some gs)) => do_fin hO hB hb3 hs3 hO4 hDO hg hres)
  have HBK := Lib.hid (fun W4 (hg : (((w.alloc (.cells #[.slice (some ⟨gs, 0, none⟩) 8 cs, .slice a n c] 50)).alloc (.cells #[.int .i64 1, .string nm, .string dst, .int .i64 num, .string t] 75)).alloc (.cells #[.slice none 0 0, .slice none 0 0] 50)).grownBy W4 (some gs)) => do_box hO hs3 hg hres)
  have hn0 := n2.2
  clear n0 n1 o0 o1 hO hP hl h4 hb3 hO3 hs3 hd hDO hres
  have d0 := n2.1 0
  have d1 := n2.1 1
  have z0 := hn0 0
  have z1 := hn0 1
  clear n2 hn0
  obtain ⟨M, hM⟩ : ∃ M, makeF p nm num = M := ⟨_, rfl⟩
  rw [hM] at HC HFIN ⊢
  clear hM
  unfold Ov.val
  go_enter Try.func36, Try.ntmps36
  go_wp2_with fail
  refine HC.out.mono ?_
  rintro e W4 ⟨g2, c2, ta, tn, tc, rs4, rfl, hO4, hg4⟩
  obtain ⟨d0, d1, z0, z1⟩ := HBK.out W4 hg4
  have HF2 := Lib.hid (HFIN.out W4 g2 c2 _ rs4 hO4 hg4)
  clear hO4 hg4
  go_wp2_with fail
  refine bodyPost_ret (v := .tuple #[.agg #[.slice (some ⟨g2, 0, none⟩) 8 c2, .slice ta tn tc], .bool M.2]) (by simp [results, Try.f36, go_sem, d0, d1]) rfl ⟨g2, c2, _, rs4, rfl, ?_, ?_⟩
  · exact (HF2.out _ _).1
  · exact (HF2.out _ _).2

set_option maxHeartbeats 1600000 in
theorem l12Write_do (gs cs : Nat) (a : Option Addr) (n c B : Nat) (rs : List Rw) (p : Po) (nm dst : ByteArray) (num : Int) (t : ByteArray) (w : World) (hO : OwnP B w gs cs (.slice a n c) rs p) (hP : PoolR p) (h1 : nm.size ≤ maxLen) (h2 : dst.size ≤ maxLen) (h3 : t.size ≤ maxLen) (hB : B ≤ w.heap.size) :
    Calls Try.prog 36 #[.agg #[.slice (some ⟨gs, 0, none⟩) 8 cs, .slice a n c], (Ov.mk 2 nm dst num t).val] w fun e w' => ∃ g2 c2 v' rs', e = .returned (.tuple #[.agg #[.slice (some ⟨g2, 0, none⟩) 8 c2, v'], .bool (doF p ⟨2, nm, dst, num, t⟩).2]) ∧
      OwnP B w' g2 c2 v' rs' (doF p ⟨2, nm, dst, num, t⟩).1 ∧ w.grownBy w' (some gs) := by
  have hl := own_len hO.vols
  have h4 := hP.len4
  have n0 := new_cells w #[.slice (some ⟨gs, 0, none⟩) 8 cs, .slice a n c] 50
  have n1 := new_cells (w.alloc (.cells #[.slice (some ⟨gs, 0, none⟩) 8 cs, .slice a n c] 50)) #[.int .i64 2, .string nm, .string dst, .int .i64 num, .string t] 75
  have n2 := new_cells ((w.alloc (.cells #[.slice (some ⟨gs, 0, none⟩) 8 cs, .slice a n c] 50)).alloc (.cells #[.int .i64 2, .string nm, .string dst, .int .i64 num, .string t] 75)) #[.slice none 0 0, .slice none 0 0] 50
  have o0 := fun i => (old_cells ((w.alloc (.cells #[.slice (some ⟨gs, 0, none⟩) 8 cs, .slice a n c] 50)).alloc (.cells #[.int .i64 2, .string nm, .string dst, .int .i64 num, .string t] 75)) (.cells #[.slice none 0 0, .slice none 0 0] 50) w.heap.size i (by simp; omega)).1.trans (old_cells (w.alloc (.cells #[.slice (some ⟨gs, 0, none⟩) 8 cs, .slice a n c] 50)) (.cells #[.int .i64 2, .string nm, .string dst, .int .i64 num, .string t] 75) w.heap.size i (by simp)).1
  have o1 := fun i => (old_cells ((w.alloc (.cells #[.slice (some ⟨gs, 0, none⟩) 8 cs, .slice a n c] 50)).alloc (.cells #[.int .i64 2, .string nm, .string dst, .int .i64 num, .string t] 75)) (.cells #[.slice none 0 0, .slice none 0 0] 50) (w.heap.size + 1) i (by simp)).1
  simp only [World.size_alloc] at n1 n2
  have a0 := (o0 0).trans (n0.1 0)
  have a1 := (o0 1).trans (n0.1 1)
  have b0 := (o1 0).trans (n1.1 0)
  have b1 := (o1 1).trans (n1.1 1)
  have b2 := (o1 2).trans (n1.1 2)
  have b3 := (o1 3).trans (n1.1 3)
  have b4 := (o1 4).trans (n1.1 4)
  have hres : (((w.alloc (.cells #[.slice (some ⟨gs, 0, none⟩) 8 cs, .slice a n c] 50)).alloc (.cells #[.int .i64 2, .string nm, .string dst, .int .i64 num, .string t] 75)).alloc (.cells #[.slice none 0 0, .slice none 0 0] 50)).heap[w.heap.size + 1 + 1]? = some (.cells #[.slice none 0 0, .slice none 0 0] 50) := by
    have := heap_alloc_new ((w.alloc (.cells #[.slice (some ⟨gs, 0, none⟩) 8 cs, .slice a n c] 50)).alloc (.cells #[.int .i64 2, .string nm, .string dst, .int .i64 num, .string t] 75)) (.cells #[.slice none 0 0, .slice none 0 0] 50)
    simpa only [World.size_alloc] using this
  have hb3 : Below w.heap.size w (((w.alloc (.cells #[.slice (some ⟨gs, 0, none⟩) 8 cs, .slice a n c] 50)).alloc (.cells #[.int .i64 2, .string nm, .string dst, .int .i64 num, .string t] 75)).alloc (.cells #[.slice none 0 0, .slice none 0 0] 50)) := (((Below.refl _ _).alloc (Nat.le_refl _) _).alloc (by simp) _).alloc (by simp; omega) _
  have hO3 := hO.below hb3 (Nat.le_refl _)
  have hs3 : (((w.alloc (.cells #[.slice (some ⟨gs, 0, none⟩) 8 cs, .slice a n c] 50)).alloc (.cells #[.int .i64 2, .string nm, .string dst, .int .i64 num, .string t] 75)).alloc (.cells #[.slice none 0 0, .slice none 0 0] 50)).heap.size = w.heap.size + 1 + 1 + 1 := by simp
  have hd : doF p ⟨2, nm, dst, num, t⟩ = writeF p nm num t := rfl
  have hDO := doF_ok hP ⟨2, nm, dst, num, t⟩
  rw [hd] at hDO ⊢
  have HC : Hid (Calls Try.prog 44 #[.agg #[.slice (some ⟨gs, 0, none⟩) 8 cs, .slice a n c], .string nm, .int .i64 num, .string t] (((w.alloc (.cells #[.slice (some ⟨gs, 0, none⟩) 8 cs, .slice a n c] 50)).alloc (.cells #[.int .i64 2, .string nm, .string dst, .int .i64 num, .string t] 75)).alloc (.cells #[.slice none 0 0, .slice none 0 0] 50)) fun e W4 => ∃ g2 c2 ta tn tc rs', e = .returned (.tuple #[.agg #[.slice (some ⟨g2, 0, none⟩) 8 c2, .slice ta tn tc], .bool (writeF p nm num t).2]) ∧
      OwnP B W4 g2 c2 (.slice ta tn tc) rs' (writeF p nm num t).1 ∧ (((w.alloc (.cells #[.slice (some ⟨gs, 0, none⟩) 8 cs, .slice a n c] 50)).alloc (.cells #[.int .i64 2, .string nm, .string dst, .int .i64 num, .string t] 75)).alloc (.cells #[.slice none 0 0, .slice none 0 0] 50)).grownBy W4 (some gs)) := Lib.hid (by
    refine (l11Write_any gs cs a n c B rs p nm num t (((w.alloc (.cells #[.slice (some ⟨gs, 0, none⟩) 8 cs, .slice a n c] 50)).alloc (.cells #[.int .i64 2, .string nm, .string dst, .int .i64 num, .string t] 75)).alloc (.cells #[.slice none 0 0, .slice none 0 0] 50)) hO3 hP h3 (by omega)).mono ?_
    rintro e W4 ⟨g4, c4, v4, rs4, rfl, hO4, hb4⟩
    obtain ⟨ta, tn, tc, rfl⟩ := arr_slice hO4.vols.arr
    exact ⟨g4, c4, ta, tn, tc, rs4, rfl, hO4, grown_below hb4⟩)
  have HFIN := Lib.hid (fun W4 g2 c2 v2 rs2 (hO4 : OwnP B W4 g2 c2 v2 rs2 (writeF p nm num t).1) (hg : (((w.alloc (.cells #[.slice (some ⟨gs, 0, none⟩) 8 cs, .slice a n c] 50)).alloc (.cells #[.int .i64 2, .string nm, .string dst, .int .i64 num, .string t] 75)).alloc (.cells #[.slice none 0 0, .slice none 0 0] 50)).grownBy W4 (some gs)) => do_fin hO hB hb3 hs3 hO4 hDO hg hres)
  have HBK := Lib.hid (fun W4 (hg : (((w.alloc (.cells #[.slice (some ⟨gs, 0, none⟩) 8 cs, .slice a n c] 50)).alloc (.cells #[.int .i64 2, .string nm, .string dst, .int .i64 num, .string t] 75)).alloc (.cells #[.slice none 0 0, .slice none 0 0] 50)).grownBy W4 (some gs)) => do_box hO hs3 hg hres)
  have hn0 := n2.2
  clear n0 n1 o0 o1 hO hP hl h4 hb3 hO3 hs3 hd hDO hres
  have d0 := n2.1 0
  have d1 := n2.1 1
  have z0 := hn0 0
  have z1 := hn0 1
  clear n2 hn0
  obtain ⟨M, hM⟩ : ∃ M, writeF p nm num t = M := ⟨_, rfl⟩
  rw [hM] at HC HFIN ⊢
  clear hM
  unfold Ov.val
  go_enter Try.func36, Try.ntmps36
  go_wp2_with fail
  refine HC.out.mono ?_
  rintro e W4 ⟨g2, c2, ta, tn, tc, rs4, rfl, hO4, hg4⟩
  obtain ⟨d0, d1, z0, z1⟩ := HBK.out W4 hg4
  have HF2 := Lib.hid (HFIN.out W4 g2 c2 _ rs4 hO4 hg4)
  clear hO4 hg4
  go_wp2_with fail
  refine bodyPost_ret (v := .tuple #[.agg #[.slice (some ⟨g2, 0, none⟩) 8 c2, .slice ta tn tc], .bool M.2]) (by simp [results, Try.f36, go_sem, d0, d1]) rfl ⟨g2, c2, _, rs4, rfl, ?_, ?_⟩
  · exact (HF2.out _ _).1
  · exact (HF2.out _ _).2

set_option maxHeartbeats 1600000 in
theorem l12Clone_do (gs cs : Nat) (a : Option Addr) (n c B : Nat) (rs : List Rw) (p : Po) (nm dst : ByteArray) (num : Int) (t : ByteArray) (w : World) (hO : OwnP B w gs cs (.slice a n c) rs p) (hP : PoolR p) (h1 : nm.size ≤ maxLen) (h2 : dst.size ≤ maxLen) (h3 : t.size ≤ maxLen) (hB : B ≤ w.heap.size) :
    Calls Try.prog 36 #[.agg #[.slice (some ⟨gs, 0, none⟩) 8 cs, .slice a n c], (Ov.mk 3 nm dst num t).val] w fun e w' => ∃ g2 c2 v' rs', e = .returned (.tuple #[.agg #[.slice (some ⟨g2, 0, none⟩) 8 c2, v'], .bool (doF p ⟨3, nm, dst, num, t⟩).2]) ∧
      OwnP B w' g2 c2 v' rs' (doF p ⟨3, nm, dst, num, t⟩).1 ∧ w.grownBy w' (some gs) := by
  have hl := own_len hO.vols
  have h4 := hP.len4
  have n0 := new_cells w #[.slice (some ⟨gs, 0, none⟩) 8 cs, .slice a n c] 50
  have n1 := new_cells (w.alloc (.cells #[.slice (some ⟨gs, 0, none⟩) 8 cs, .slice a n c] 50)) #[.int .i64 3, .string nm, .string dst, .int .i64 num, .string t] 75
  have n2 := new_cells ((w.alloc (.cells #[.slice (some ⟨gs, 0, none⟩) 8 cs, .slice a n c] 50)).alloc (.cells #[.int .i64 3, .string nm, .string dst, .int .i64 num, .string t] 75)) #[.slice none 0 0, .slice none 0 0] 50
  have o0 := fun i => (old_cells ((w.alloc (.cells #[.slice (some ⟨gs, 0, none⟩) 8 cs, .slice a n c] 50)).alloc (.cells #[.int .i64 3, .string nm, .string dst, .int .i64 num, .string t] 75)) (.cells #[.slice none 0 0, .slice none 0 0] 50) w.heap.size i (by simp; omega)).1.trans (old_cells (w.alloc (.cells #[.slice (some ⟨gs, 0, none⟩) 8 cs, .slice a n c] 50)) (.cells #[.int .i64 3, .string nm, .string dst, .int .i64 num, .string t] 75) w.heap.size i (by simp)).1
  have o1 := fun i => (old_cells ((w.alloc (.cells #[.slice (some ⟨gs, 0, none⟩) 8 cs, .slice a n c] 50)).alloc (.cells #[.int .i64 3, .string nm, .string dst, .int .i64 num, .string t] 75)) (.cells #[.slice none 0 0, .slice none 0 0] 50) (w.heap.size + 1) i (by simp)).1
  simp only [World.size_alloc] at n1 n2
  have a0 := (o0 0).trans (n0.1 0)
  have a1 := (o0 1).trans (n0.1 1)
  have b0 := (o1 0).trans (n1.1 0)
  have b1 := (o1 1).trans (n1.1 1)
  have b2 := (o1 2).trans (n1.1 2)
  have b3 := (o1 3).trans (n1.1 3)
  have b4 := (o1 4).trans (n1.1 4)
  have hres : (((w.alloc (.cells #[.slice (some ⟨gs, 0, none⟩) 8 cs, .slice a n c] 50)).alloc (.cells #[.int .i64 3, .string nm, .string dst, .int .i64 num, .string t] 75)).alloc (.cells #[.slice none 0 0, .slice none 0 0] 50)).heap[w.heap.size + 1 + 1]? = some (.cells #[.slice none 0 0, .slice none 0 0] 50) := by
    have := heap_alloc_new ((w.alloc (.cells #[.slice (some ⟨gs, 0, none⟩) 8 cs, .slice a n c] 50)).alloc (.cells #[.int .i64 3, .string nm, .string dst, .int .i64 num, .string t] 75)) (.cells #[.slice none 0 0, .slice none 0 0] 50)
    simpa only [World.size_alloc] using this
  have hb3 : Below w.heap.size w (((w.alloc (.cells #[.slice (some ⟨gs, 0, none⟩) 8 cs, .slice a n c] 50)).alloc (.cells #[.int .i64 3, .string nm, .string dst, .int .i64 num, .string t] 75)).alloc (.cells #[.slice none 0 0, .slice none 0 0] 50)) := (((Below.refl _ _).alloc (Nat.le_refl _) _).alloc (by simp) _).alloc (by simp; omega) _
  have hO3 := hO.below hb3 (Nat.le_refl _)
  have hs3 : (((w.alloc (.cells #[.slice (some ⟨gs, 0, none⟩) 8 cs, .slice a n c] 50)).alloc (.cells #[.int .i64 3, .string nm, .string dst, .int .i64 num, .string t] 75)).alloc (.cells #[.slice none 0 0, .slice none 0 0] 50)).heap.size = w.heap.size + 1 + 1 + 1 := by simp
  have hd : doF p ⟨3, nm, dst, num, t⟩ = cloneF p nm dst := rfl
  have hDO := doF_ok hP ⟨3, nm, dst, num, t⟩
  rw [hd] at hDO ⊢
  have HC : Hid (Calls Try.prog 45 #[.agg #[.slice (some ⟨gs, 0, none⟩) 8 cs, .slice a n c], .string nm, .string dst] (((w.alloc (.cells #[.slice (some ⟨gs, 0, none⟩) 8 cs, .slice a n c] 50)).alloc (.cells #[.int .i64 3, .string nm, .string dst, .int .i64 num, .string t] 75)).alloc (.cells #[.slice none 0 0, .slice none 0 0] 50)) fun e W4 => ∃ g2 c2 ta tn tc rs', e = .returned (.tuple #[.agg #[.slice (some ⟨g2, 0, none⟩) 8 c2, .slice ta tn tc], .bool (cloneF p nm dst).2]) ∧
      OwnP B W4 g2 c2 (.slice ta tn tc) rs' (cloneF p nm dst).1 ∧ (((w.alloc (.cells #[.slice (some ⟨gs, 0, none⟩) 8 cs, .slice a n c] 50)).alloc (.cells #[.int .i64 3, .string nm, .string dst, .int .i64 num, .string t] 75)).alloc (.cells #[.slice none 0 0, .slice none 0 0] 50)).grownBy W4 (some gs)) := Lib.hid (by
    refine (l11Clone_any gs cs a n c B rs p nm dst (((w.alloc (.cells #[.slice (some ⟨gs, 0, none⟩) 8 cs, .slice a n c] 50)).alloc (.cells #[.int .i64 3, .string nm, .string dst, .int .i64 num, .string t] 75)).alloc (.cells #[.slice none 0 0, .slice none 0 0] 50)) hO3 hP h2 (by omega)).mono ?_
    rintro e W4 ⟨v4, rs4, rfl, hO4, hb4⟩
    obtain ⟨ta, tn, tc, rfl⟩ := arr_slice hO4.vols.arr
    exact ⟨gs, cs, ta, tn, tc, rs4, rfl, hO4, hb4⟩)
  have HFIN := Lib.hid (fun W4 g2 c2 v2 rs2 (hO4 : OwnP B W4 g2 c2 v2 rs2 (cloneF p nm dst).1) (hg : (((w.alloc (.cells #[.slice (some ⟨gs, 0, none⟩) 8 cs, .slice a n c] 50)).alloc (.cells #[.int .i64 3, .string nm, .string dst, .int .i64 num, .string t] 75)).alloc (.cells #[.slice none 0 0, .slice none 0 0] 50)).grownBy W4 (some gs)) => do_fin hO hB hb3 hs3 hO4 hDO hg hres)
  have HBK := Lib.hid (fun W4 (hg : (((w.alloc (.cells #[.slice (some ⟨gs, 0, none⟩) 8 cs, .slice a n c] 50)).alloc (.cells #[.int .i64 3, .string nm, .string dst, .int .i64 num, .string t] 75)).alloc (.cells #[.slice none 0 0, .slice none 0 0] 50)).grownBy W4 (some gs)) => do_box hO hs3 hg hres)
  have hn0 := n2.2
  clear n0 n1 o0 o1 hO hP hl h4 hb3 hO3 hs3 hd hDO hres
  have d0 := n2.1 0
  have d1 := n2.1 1
  have z0 := hn0 0
  have z1 := hn0 1
  clear n2 hn0
  obtain ⟨M, hM⟩ : ∃ M, cloneF p nm dst = M := ⟨_, rfl⟩
  rw [hM] at HC HFIN ⊢
  clear hM
  unfold Ov.val
  go_enter Try.func36, Try.ntmps36
  go_wp2_with fail
  refine HC.out.mono ?_
  rintro e W4 ⟨g2, c2, ta, tn, tc, rs4, rfl, hO4, hg4⟩
  obtain ⟨d0, d1, z0, z1⟩ := HBK.out W4 hg4
  have HF2 := Lib.hid (HFIN.out W4 g2 c2 _ rs4 hO4 hg4)
  clear hO4 hg4
  go_wp2_with fail
  refine bodyPost_ret (v := .tuple #[.agg #[.slice (some ⟨g2, 0, none⟩) 8 c2, .slice ta tn tc], .bool M.2]) (by simp [results, Try.f36, go_sem, d0, d1]) rfl ⟨g2, c2, _, rs4, rfl, ?_, ?_⟩
  · exact (HF2.out _ _).1
  · exact (HF2.out _ _).2

set_option maxHeartbeats 1600000 in
theorem l12Gone_do (gs cs : Nat) (a : Option Addr) (n c B : Nat) (rs : List Rw) (p : Po) (kind : Int) (nm dst : ByteArray) (num : Int) (t : ByteArray) (w : World) (hO : OwnP B w gs cs (.slice a n c) rs p) (hP : PoolR p) (h1 : nm.size ≤ maxLen) (h2 : dst.size ≤ maxLen) (h3 : t.size ≤ maxLen) (hB : B ≤ w.heap.size) (k1 : kind ≠ 1) (k2 : kind ≠ 2) (k3 : kind ≠ 3) :
    Calls Try.prog 36 #[.agg #[.slice (some ⟨gs, 0, none⟩) 8 cs, .slice a n c], (Ov.mk kind nm dst num t).val] w fun e w' => ∃ g2 c2 v' rs', e = .returned (.tuple #[.agg #[.slice (some ⟨g2, 0, none⟩) 8 c2, v'], .bool (doF p ⟨kind, nm, dst, num, t⟩).2]) ∧
      OwnP B w' g2 c2 v' rs' (doF p ⟨kind, nm, dst, num, t⟩).1 ∧ w.grownBy w' (some gs) := by
  have hl := own_len hO.vols
  have h4 := hP.len4
  have n0 := new_cells w #[.slice (some ⟨gs, 0, none⟩) 8 cs, .slice a n c] 50
  have n1 := new_cells (w.alloc (.cells #[.slice (some ⟨gs, 0, none⟩) 8 cs, .slice a n c] 50)) #[.int .i64 kind, .string nm, .string dst, .int .i64 num, .string t] 75
  have n2 := new_cells ((w.alloc (.cells #[.slice (some ⟨gs, 0, none⟩) 8 cs, .slice a n c] 50)).alloc (.cells #[.int .i64 kind, .string nm, .string dst, .int .i64 num, .string t] 75)) #[.slice none 0 0, .slice none 0 0] 50
  have o0 := fun i => (old_cells ((w.alloc (.cells #[.slice (some ⟨gs, 0, none⟩) 8 cs, .slice a n c] 50)).alloc (.cells #[.int .i64 kind, .string nm, .string dst, .int .i64 num, .string t] 75)) (.cells #[.slice none 0 0, .slice none 0 0] 50) w.heap.size i (by simp; omega)).1.trans (old_cells (w.alloc (.cells #[.slice (some ⟨gs, 0, none⟩) 8 cs, .slice a n c] 50)) (.cells #[.int .i64 kind, .string nm, .string dst, .int .i64 num, .string t] 75) w.heap.size i (by simp)).1
  have o1 := fun i => (old_cells ((w.alloc (.cells #[.slice (some ⟨gs, 0, none⟩) 8 cs, .slice a n c] 50)).alloc (.cells #[.int .i64 kind, .string nm, .string dst, .int .i64 num, .string t] 75)) (.cells #[.slice none 0 0, .slice none 0 0] 50) (w.heap.size + 1) i (by simp)).1
  simp only [World.size_alloc] at n1 n2
  have a0 := (o0 0).trans (n0.1 0)
  have a1 := (o0 1).trans (n0.1 1)
  have b0 := (o1 0).trans (n1.1 0)
  have b1 := (o1 1).trans (n1.1 1)
  have b2 := (o1 2).trans (n1.1 2)
  have b3 := (o1 3).trans (n1.1 3)
  have b4 := (o1 4).trans (n1.1 4)
  have hres : (((w.alloc (.cells #[.slice (some ⟨gs, 0, none⟩) 8 cs, .slice a n c] 50)).alloc (.cells #[.int .i64 kind, .string nm, .string dst, .int .i64 num, .string t] 75)).alloc (.cells #[.slice none 0 0, .slice none 0 0] 50)).heap[w.heap.size + 1 + 1]? = some (.cells #[.slice none 0 0, .slice none 0 0] 50) := by
    have := heap_alloc_new ((w.alloc (.cells #[.slice (some ⟨gs, 0, none⟩) 8 cs, .slice a n c] 50)).alloc (.cells #[.int .i64 kind, .string nm, .string dst, .int .i64 num, .string t] 75)) (.cells #[.slice none 0 0, .slice none 0 0] 50)
    simpa only [World.size_alloc] using this
  have hb3 : Below w.heap.size w (((w.alloc (.cells #[.slice (some ⟨gs, 0, none⟩) 8 cs, .slice a n c] 50)).alloc (.cells #[.int .i64 kind, .string nm, .string dst, .int .i64 num, .string t] 75)).alloc (.cells #[.slice none 0 0, .slice none 0 0] 50)) := (((Below.refl _ _).alloc (Nat.le_refl _) _).alloc (by simp) _).alloc (by simp; omega) _
  have hO3 := hO.below hb3 (Nat.le_refl _)
  have hs3 : (((w.alloc (.cells #[.slice (some ⟨gs, 0, none⟩) 8 cs, .slice a n c] 50)).alloc (.cells #[.int .i64 kind, .string nm, .string dst, .int .i64 num, .string t] 75)).alloc (.cells #[.slice none 0 0, .slice none 0 0] 50)).heap.size = w.heap.size + 1 + 1 + 1 := by simp
  have hd : doF p ⟨kind, nm, dst, num, t⟩ = goneF p nm := (by unfold doF; simp only [k1, k2, k3, if_false])
  have hDO := doF_ok hP ⟨kind, nm, dst, num, t⟩
  rw [hd] at hDO ⊢
  have HC : Hid (Calls Try.prog 46 #[.agg #[.slice (some ⟨gs, 0, none⟩) 8 cs, .slice a n c], .string nm] (((w.alloc (.cells #[.slice (some ⟨gs, 0, none⟩) 8 cs, .slice a n c] 50)).alloc (.cells #[.int .i64 kind, .string nm, .string dst, .int .i64 num, .string t] 75)).alloc (.cells #[.slice none 0 0, .slice none 0 0] 50)) fun e W4 => ∃ g2 c2 ta tn tc rs', e = .returned (.tuple #[.agg #[.slice (some ⟨g2, 0, none⟩) 8 c2, .slice ta tn tc], .bool (goneF p nm).2]) ∧
      OwnP B W4 g2 c2 (.slice ta tn tc) rs' (goneF p nm).1 ∧ (((w.alloc (.cells #[.slice (some ⟨gs, 0, none⟩) 8 cs, .slice a n c] 50)).alloc (.cells #[.int .i64 kind, .string nm, .string dst, .int .i64 num, .string t] 75)).alloc (.cells #[.slice none 0 0, .slice none 0 0] 50)).grownBy W4 (some gs)) := Lib.hid (by
    refine (l11Gone_any gs cs a n c B rs p nm (((w.alloc (.cells #[.slice (some ⟨gs, 0, none⟩) 8 cs, .slice a n c] 50)).alloc (.cells #[.int .i64 kind, .string nm, .string dst, .int .i64 num, .string t] 75)).alloc (.cells #[.slice none 0 0, .slice none 0 0] 50)) hO3 hP (by omega)).mono ?_
    rintro e W4 ⟨v4, rs4, rfl, hO4, hb4⟩
    obtain ⟨ta, tn, tc, rfl⟩ := arr_slice hO4.vols.arr
    exact ⟨gs, cs, ta, tn, tc, rs4, rfl, hO4, hb4⟩)
  have HFIN := Lib.hid (fun W4 g2 c2 v2 rs2 (hO4 : OwnP B W4 g2 c2 v2 rs2 (goneF p nm).1) (hg : (((w.alloc (.cells #[.slice (some ⟨gs, 0, none⟩) 8 cs, .slice a n c] 50)).alloc (.cells #[.int .i64 kind, .string nm, .string dst, .int .i64 num, .string t] 75)).alloc (.cells #[.slice none 0 0, .slice none 0 0] 50)).grownBy W4 (some gs)) => do_fin hO hB hb3 hs3 hO4 hDO hg hres)
  have HBK := Lib.hid (fun W4 (hg : (((w.alloc (.cells #[.slice (some ⟨gs, 0, none⟩) 8 cs, .slice a n c] 50)).alloc (.cells #[.int .i64 kind, .string nm, .string dst, .int .i64 num, .string t] 75)).alloc (.cells #[.slice none 0 0, .slice none 0 0] 50)).grownBy W4 (some gs)) => do_box hO hs3 hg hres)
  have hn0 := n2.2
  clear n0 n1 o0 o1 hO hP hl h4 hb3 hO3 hs3 hd hDO hres
  have d0 := n2.1 0
  have d1 := n2.1 1
  have z0 := hn0 0
  have z1 := hn0 1
  clear n2 hn0
  obtain ⟨M, hM⟩ : ∃ M, goneF p nm = M := ⟨_, rfl⟩
  rw [hM] at HC HFIN ⊢
  clear hM
  unfold Ov.val
  go_enter Try.func36, Try.ntmps36
  go_wp2_with fail
  refine HC.out.mono ?_
  rintro e W4 ⟨g2, c2, ta, tn, tc, rs4, rfl, hO4, hg4⟩
  obtain ⟨d0, d1, z0, z1⟩ := HBK.out W4 hg4
  have HF2 := Lib.hid (HFIN.out W4 g2 c2 _ rs4 hO4 hg4)
  clear hO4 hg4
  go_wp2_with fail
  refine bodyPost_ret (v := .tuple #[.agg #[.slice (some ⟨g2, 0, none⟩) 8 c2, .slice ta tn tc], .bool M.2]) (by simp [results, Try.f36, go_sem, d0, d1]) rfl ⟨g2, c2, _, rs4, rfl, ?_, ?_⟩
  · exact (HF2.out _ _).1
  · exact (HF2.out _ _).2

theorem l12Do_any (gs cs : Nat) (a : Option Addr) (n c B : Nat) (rs : List Rw) (p : Po) (o : Ov) (w : World) (hO : OwnP B w gs cs (.slice a n c) rs p) (hP : PoolR p) (h1 : o.name.size ≤ maxLen) (h2 : o.dest.size ≤ maxLen) (h3 : o.text.size ≤ maxLen) (hB : B ≤ w.heap.size) :
    Calls Try.prog 36 #[.agg #[.slice (some ⟨gs, 0, none⟩) 8 cs, .slice a n c], o.val] w fun e w' => ∃ g2 c2 v' rs', e = .returned (.tuple #[.agg #[.slice (some ⟨g2, 0, none⟩) 8 c2, v'], .bool (doF p o).2]) ∧
      OwnP B w' g2 c2 v' rs' (doF p o).1 ∧ w.grownBy w' (some gs) := by
  obtain ⟨kind, nm, dst, num, t⟩ := o
  by_cases k1 : kind = 1
  · subst k1; exact l12Make_do gs cs a n c B rs p nm dst num t w hO hP h1 h2 h3 hB
  by_cases k2 : kind = 2
  · subst k2; exact l12Write_do gs cs a n c B rs p nm dst num t w hO hP h1 h2 h3 hB
  by_cases k3 : kind = 3
  · subst k3; exact l12Clone_do gs cs a n c B rs p nm dst num t w hO hP h1 h2 h3 hB
  exact l12Gone_do gs cs a n c B rs p kind nm dst num t w hO hP h1 h2 h3 hB k1 k2 k3

end Go.Proofs.Ytgogokahpmljbaa
