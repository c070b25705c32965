/- The model's l11Make: a disk is made. -/
import Derived.Test.YtplicodloanljaaDoorPoolAdd
import Derived.RegionCalls
namespace Go.Proofs.YtplicodloanljaaDoor
open Go.RowKit
set_option linter.unusedVariables false
set_option maxRecDepth 100000

theorem own_len {B : Nat} {w : World} {a : Option Addr} {n c : Nat} {rs : List Rw} {vs : List Vo} (h : OwnVR B w (.slice a n c) rs vs) : vs.length = n := by
  rcases h.arr.2 with ⟨e, h0⟩ | ⟨g, cap, cur, e, _⟩
  · injection e with _ e2 _; omega
  · injection e with _ e2 _; omega

theorem rdV_of_own {B : Nat} {w : World} {a : Option Addr} {n c : Nat} {rs : List Rw} {vs : List Vo} (h : OwnVR B w (.slice a n c) rs vs) (hn : n ≤ 900) (hb : ∀ v ∈ vs, volB v = true) : RdV w a n c vs := by
  have hl := own_len h
  refine ⟨hl, by omega, ?_⟩
  by_cases h0 : 0 < n
  · obtain ⟨g, cap, hav, _, _, _, hr, _⟩ := h.rows (by omega)
    injection hav with ea _ _
    refine .inr ⟨g, 0, rs, ea, by rw [h.len, hl], hr, fun i hi => ?_⟩
    obtain ⟨h1, gb, cb, h2, _, _, _, h3, h4, _⟩ := h.row i (by omega)
    have hv := (volB_iff _).1 (hb _ (vth_mem (k := i) (by omega)))
    refine ⟨h1, ?_, by rw [nameB_size _ hv.2.1]; unfold maxLen; omega⟩
    rw [h2]
    exact ⟨_, _, _, rfl, rfl, by omega, .inr ⟨gb, 0, rfl, h4.1⟩⟩
  · exact .inl (List.eq_nil_of_length_eq_zero (by omega))

theorem OwnVR.far {B : Nat} {w : World} {v : Value} {rs : List Rw} {vs : List Vo} (h : OwnVR B w v rs vs) {W : World} (hb : Below w.heap.size w W) (p : Addr) (hp : w.heap.size ≤ p.block) (u : Value) : OwnVR B (W.setCell p u) v rs vs :=
  (h.below hb (Nat.le_refl _)).setFar p (fun e => by have := (arr_at h.arr _ e).2; omega) (fun i hi => by have := (h.blk_lt i hi).2; omega) u

theorem OwnVR.far2 {B : Nat} {w : World} {v : Value} {rs : List Rw} {vs : List Vo} (h : OwnVR B w v rs vs) {W : World} (hb : Below w.heap.size w W) (p q : Addr) (hp : w.heap.size ≤ p.block) (hq : w.heap.size ≤ q.block) (u v2 : Value) : OwnVR B ((W.setCell p u).setCell q v2) v rs vs :=
  h.far (W := W.setCell p u) (hb.setCell hp u) q hq v2

/-- What l11Make makes of the disks. -/
def makeV (vs : List Vo) (n : ByteArray) (size : Int) : List Vo × Bool :=
  if (nameB n.data.toList && (decide (1 ≤ size) && decide (size ≤ 6)) && decide (atF vs n < 0)) = true then (addF vs ⟨n, List.replicate size.toNat 0⟩, true) else (vs, false)

theorem makeF_v (p : Po) (n : ByteArray) (size : Int) : makeF p n size = (⟨p.slots, (makeV p.vols n size).1⟩, (makeV p.vols n size).2) := by
  unfold makeF makeV; split <;> rfl

/-- A pool in the model's box, and its result's box. -/
structure BoxPool (w : World) (sa : Option Addr) (sn sc : Nat) (a : Option Addr) (n c : Nat) (W : World) : Prop where
  c0 : W.cell? ⟨w.heap.size, 0, none⟩ = some (.slice sa sn sc)
  c1 : W.cell? ⟨w.heap.size, 1, none⟩ = some (.slice a n c)
  d0 : W.cell? ⟨w.heap.size + 1, 0, none⟩ = some (.slice none 0 0)
  d1 : W.cell? ⟨w.heap.size + 1, 1, none⟩ = some (.slice none 0 0)
  z0 : W.frozen? ⟨w.heap.size + 1, 0, none⟩ = false
  z1 : W.frozen? ⟨w.heap.size + 1, 1, none⟩ = false
  big : w.heap.size + 2 ≤ W.heap.size
  bel : Below w.heap.size w W

theorem boxPool (w : World) (sa : Option Addr) (sn sc : Nat) (a : Option Addr) (n c : Nat) (t : TypeId) : BoxPool w sa sn sc a n c ((w.alloc (.cells #[.slice sa sn sc, .slice a n c] t)).alloc (.cells #[.slice none 0 0, .slice none 0 0] t)) := by
  have n0 := new_cells w #[.slice sa sn sc, .slice a n c] t
  have n1 := new_cells (w.alloc (.cells #[.slice sa sn sc, .slice a n c] t)) #[.slice none 0 0, .slice none 0 0] t
  have o0 := fun i => old_cells (w.alloc (.cells #[.slice sa sn sc, .slice a n c] t)) (.cells #[.slice none 0 0, .slice none 0 0] t) w.heap.size i (by simp)
  simp only [World.size_alloc] at n1
  exact ⟨(o0 0).1.trans (n0.1 0), (o0 1).1.trans (n0.1 1), n1.1 0, n1.1 1, n1.2 0, n1.2 1, by simp, ((Below.refl _ _).alloc (Nat.le_refl _) _).alloc (by simp) _⟩

theorem BoxPool.later {w : World} {sa : Option Addr} {sn sc : Nat} {a : Option Addr} {n c : Nat} {W W' : World} (h : BoxPool w sa sn sc a n c W) {B : Nat} (hb : Below B W W') (hB : w.heap.size + 2 ≤ B) : BoxPool w sa sn sc a n c W' :=
  ⟨(hb.cell (p := ⟨w.heap.size, 0, none⟩) (by show w.heap.size < B; omega)).trans h.c0, (hb.cell (p := ⟨w.heap.size, 1, none⟩) (by show w.heap.size < B; omega)).trans h.c1,
   (hb.cell (p := ⟨w.heap.size + 1, 0, none⟩) (by show w.heap.size + 1 < B; omega)).trans h.d0, (hb.cell (p := ⟨w.heap.size + 1, 1, none⟩) (by show w.heap.size + 1 < B; omega)).trans h.d1,
   (hb.frozen (p := ⟨w.heap.size + 1, 0, none⟩) (by show w.heap.size + 1 < B; omega)).trans h.z0, (hb.frozen (p := ⟨w.heap.size + 1, 1, none⟩) (by show w.heap.size + 1 < B; omega)).trans h.z1,
   Nat.le_trans h.big hb.size, h.bel.trans (hb.mono (by omega))⟩

theorem BoxPool.next {w : World} {sa : Option Addr} {sn sc : Nat} {a : Option Addr} {n c : Nat} {W W' : World} (h : BoxPool w sa sn sc a n c W) (hb : Below W.heap.size W W') : BoxPool w sa sn sc a n c W' := h.later hb h.big

end Go.Proofs.YtplicodloanljaaDoor
