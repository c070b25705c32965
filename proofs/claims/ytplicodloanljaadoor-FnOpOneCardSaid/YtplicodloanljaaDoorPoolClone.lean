/- The model's l11Clone: a disk is cloned. -/
import Derived.Test.YtplicodloanljaaDoorPoolMake
import Derived.StillTailTactics
namespace Go.Proofs.YtplicodloanljaaDoor
open Go.RowKit
set_option linter.unusedVariables false
set_option maxRecDepth 100000

/-- append([]int{}, bs..). -/
theorem wpList_copy_ints {ops : Array Oper} {rest : List Oper} {o : Oper} {a : Act} {Q : Exit → Act → World → Prop} (W : World) (hgd : o.guard = none) (s x : Operand) (ho : o.op = .call { callee := .builtin .append, args := #[s, x], argTypes := #[177, 177] })
    (hs : a.eval s = .slice (some ⟨W.heap.size, 0, none⟩) 0 0) (g off n c : Nat) (hx : a.eval x = .slice (some ⟨g, off, none⟩) n c) (bs : List Int) (hsl : IntsAt W g off bs) (hn : bs.length = n) (h0 : 0 < n) (hn1 : n ≤ 2000000)
    (h : ∀ g' cap' w1, OwnBlk W.heap.size w1 (.slice (some ⟨g', 0, none⟩) n cap') bs → Below W.heap.size W w1 → wpList Tryd.prog ops Q rest (a.put o.dst (.slice (some ⟨g', 0, none⟩) n cap')) w1) :
    wpList Tryd.prog ops Q (o :: rest) a (W.alloc (.cells #[] 3)) := by
  have hlt := ints_lt hsl (by omega)
  obtain ⟨i0, hi, hz0, hz1, hz2⟩ := info_parts Tryd.infoI
  have hb1 : Below W.heap.size W (W.alloc (.cells #[] 3)) := (Below.refl _ _).alloc (Nat.le_refl _) _
  have hown : (W.alloc (.cells #[] 3)).ownsRow W.heap.size 3 1 (.slice (some ⟨W.heap.size, 0, none⟩) 0 0) 0 [] :=
    World.ownsRow_made W #[] 0 (Nat.le_refl _) (by unfold maxLen; omega) rfl
  refine wpList_append_own (P := Tryd.prog) (W.alloc (.cells #[] 3)) hgd s x 177 ho W.heap.size 3 i0 (.int .i64 0) 1 8 Tryd.underlying177 hi hz0 hz1 hz2 rfl (by decide) _ _ _ hs hown ⟨g, off, none⟩ n c (cellI bs) hx (by rw [cellI_len, hn]; omega) (intsAt_cells (intsAt_below hsl hb1 hlt)) (cellI_one bs) (by unfold maxLen; omega) (by omega) (by simp) ?_
  intro v' w1 hown' hgrow _
  simp only [Nat.zero_add, List.nil_append] at hown'
  obtain ⟨g', cap', hv, hb, hl', hc', hs'⟩ := ints_of_own hown' h0 hn
  rw [hv]
  exact h g' cap' w1 ⟨g', cap', by rw [hn], hb, hl', by rw [hn]; exact hc', by rw [hn]; exact h0, hs'⟩ (hb1.grown hgrow (by simp) (fun k e => by cases e; exact Nat.le_refl _))

theorem grown_below {w W : World} {r : Option Nat} (h : Below w.heap.size w W) : w.grownBy W r := ⟨h.os, h.tape, h.output, h.size, fun k hk _ => h.block k hk⟩

theorem grown_set {w W : World} {r : Option Nat} (h : w.grownBy W r) (p : Addr) (hp : w.heap.size ≤ p.block) (v : Value) : w.grownBy (W.setCell p v) r :=
  ⟨h.os, h.tape, h.output, by simpa [World.setCell] using h.size, fun k hk hn => (Below.heap_setCell W p v k (fun e => by have e2 : k = p.block := e; omega)).trans (h.block k hk hn)⟩

theorem grown_low {w W : World} {B gs : Nat} (h : w.grownBy W (some gs)) (hB : B ≤ w.heap.size) (hg : B ≤ gs) : Below B w W := (Below.refl B w).grown h hB (fun k e => by cases e; exact hg)

theorem OwnVR.keptFar {B : Nat} {w w' : World} {v : Value} {rs : List Rw} {vs : List Vo} (h : OwnVR B w v rs vs) {gs : Nat} (hg : w.grownBy w' (some gs)) (hp : v.ownBlock ≠ some gs) (hr : ∀ i, i < vs.length → blkOf (rth rs i).val ≠ gs) : OwnVR B w' v rs vs := by
  refine ⟨⟨h.arr.1, ?_⟩, h.len, fun i hi => ?_, h.apart⟩
  · rcases h.arr.2 with h2 | ⟨g, cap, cur, hv, h3, h4, h5⟩
    · exact .inl h2
    · refine .inr ⟨g, cap, cur, hv, h3, (hg.block g (Array.getElem?_eq_some_iff.1 h4).1 (fun e => hp ?_)).trans h4, h5⟩
      rw [hv]; exact e
  · obtain ⟨hn, gb, cap, e, h1, h2, h3, h4, h5, h6⟩ := h.row i hi
    have hne : gb ≠ gs := by
      have := hr i hi
      rw [e] at this; exact this
    exact ⟨hn, gb, cap, e, h1, Nat.lt_of_lt_of_le h2 hg.size, h3, h4, intsW_kept h5 hg h2 (fun e2 => hne (by simpa using e2)), h6⟩

/-- A pool of the call's own. -/
structure OwnP (B : Nat) (w : World) (gs cs : Nat) (v : Value) (rs : List Rw) (p : Po) : Prop where
  low : B ≤ gs
  lt : gs < w.heap.size
  cap : 8 ≤ cs
  sl : SlotsW w gs 0 p.slots
  vols : OwnVR B w v rs p.vols
  farV : v.ownBlock ≠ some gs
  farR : ∀ i, i < p.vols.length → blkOf (rth rs i).val ≠ gs

theorem OwnP.below {B C : Nat} {w w' : World} {gs cs : Nat} {v : Value} {rs : List Rw} {p : Po} (h : OwnP B w gs cs v rs p) (hb : Below C w w') (hC : w.heap.size ≤ C) : OwnP B w' gs cs v rs p :=
  ⟨h.low, Nat.lt_of_lt_of_le h.lt hb.size, h.cap, h.sl.below hb (by have := h.lt; omega), h.vols.below hb hC, h.farV, h.farR⟩

theorem OwnP.far {B : Nat} {w : World} {gs cs : Nat} {v : Value} {rs : List Rw} {p : Po} (h : OwnP B w gs cs v rs p) {W : World} (hb : Below w.heap.size w W) (q : Addr) (hq : w.heap.size ≤ q.block) (u : Value) : OwnP B (W.setCell q u) gs cs v rs p := by
  have h2 := h.below hb (Nat.le_refl _)
  exact ⟨h.low, by simpa [World.setCell] using h2.lt, h.cap, h2.sl.kept (grownBy_setCell W q u) h2.lt (fun e => by have e2 : gs = q.block := (by simpa using e); have := h.lt; omega), h.vols.far hb q hq u, h.farV, h.farR⟩

theorem OwnP.far2 {B : Nat} {w : World} {gs cs : Nat} {v : Value} {rs : List Rw} {p : Po} (h : OwnP B w gs cs v rs p) {W : World} (hb : Below w.heap.size w W) (q r : Addr) (hq : w.heap.size ≤ q.block) (hr : w.heap.size ≤ r.block) (u v2 : Value) : OwnP B ((W.setCell q u).setCell r v2) gs cs v rs p :=
  h.far (W := W.setCell q u) (hb.setCell hq u) r hr v2

theorem inc_take (xs : List Sl) (bs : List Int) (k : Nat) (hk : k < bs.length) : incAll xs (bs.take (k + 1)) = incOne (incAll xs (bs.take k)) (bth bs k) := by
  rw [take_blk _ _ hk]; unfold incAll; rw [List.foldl_append]; rfl

theorem inc_len (xs : List Sl) (bs : List Int) : (incAll xs bs).length = xs.length := by
  induction bs generalizing xs with
  | nil => rfl
  | cons b r ih =>
    show (incAll (incOne xs b) r).length = _
    rw [ih]; unfold incOne; split <;> simp

theorem inc_uses {p : Po} (h : PoolR p) {k : Nat} (hk : k < p.vols.length) (m i : Nat) (hi : i < 8) : 0 ≤ (nth (incAll p.slots ((vth p.vols k).blocks.take m)) i).uses ∧ (nth (incAll p.slots ((vth p.vols k).blocks.take m)) i).uses ≤ 1000 := by
  have hv := h.vol hk
  have hs := h.small i hi
  obtain ⟨_, h2⟩ := incAll_ok ((vth p.vols k).blocks.take m) p.slots h.store (fun b hb => hv.1 b (List.mem_of_mem_take hb)) (fun b hb h0 => (h.used hk b (List.mem_of_mem_take hb) h0).2) (fun j hj => by
    have := h.small j hj
    have : ((vth p.vols k).blocks.take m).length ≤ 6 := by rw [List.length_take]; omega
    omega)
  rw [h2 i hi]
  have := List.count_le_length (a := (i : Int) + 1) (l := (vth p.vols k).blocks.take m)
  have : ((vth p.vols k).blocks.take m).length ≤ 6 := by rw [List.length_take]; omega
  omega

end Go.Proofs.YtplicodloanljaaDoor
