/- The model's l11Add: a disk is put where its name stands. -/
import Derived.Test.YtplicodloanljaaDoorPoolOwn
import Derived.WalkLawsBesides
import Derived.Deep.Cut
namespace Go.Proofs.YtplicodloanljaaDoor
open Go.RowKit
set_option linter.unusedVariables false
set_option maxRecDepth 100000

theorem addF_app_some (xs ys : List Vo) (y : Vo) (h : ∃ x ∈ xs, keyOf y < keyOf x) : addF (xs ++ ys) y = addF xs y ++ ys := by
  induction xs with
  | nil => obtain ⟨x, hx, _⟩ := h; cases hx
  | cons a xs ih =>
    simp only [List.cons_append, addF]
    by_cases ha : keyOf y < keyOf a
    · rw [if_pos ha, if_pos ha]; rfl
    · rw [if_neg ha, if_neg ha, ih (by
        obtain ⟨x, hx, hk⟩ := h
        rcases List.mem_cons.1 hx with rfl | hx
        · exact absurd hk ha
        · exact ⟨x, hx, hk⟩)]; rfl

theorem addF_app_none (xs ys : List Vo) (y : Vo) (h : ∀ x ∈ xs, ¬ keyOf y < keyOf x) : addF (xs ++ ys) y = xs ++ addF ys y := by
  induction xs with
  | nil => rfl
  | cons a xs ih =>
    simp only [List.cons_append, addF]
    rw [if_neg (h a (by simp)), ih (fun x hx => h x (by simp [hx]))]

/-- Whether the new disk stands among the first k already, and these. -/
def putK (vs : List Vo) (y : Vo) (k : Nat) : Bool := (vs.take k).any (fun x => decide (keyOf y < keyOf x))

def outK (vs : List Vo) (y : Vo) (k : Nat) : List Vo := if putK vs y k = true then addF (vs.take k) y else vs.take k

theorem putK_succ (vs : List Vo) (y : Vo) (k : Nat) (hk : k < vs.length) : putK vs y (k + 1) = (putK vs y k || decide (keyOf y < keyOf (vth vs k))) := by
  unfold putK; rw [take_vo _ _ hk, List.any_append]; simp

theorem putK_some {vs : List Vo} {y : Vo} {k : Nat} (h : putK vs y k = true) : ∃ x ∈ vs.take k, keyOf y < keyOf x := by
  unfold putK at h
  rw [List.any_eq_true] at h
  obtain ⟨x, hx, hk⟩ := h
  exact ⟨x, hx, by simpa using hk⟩

theorem putK_none {vs : List Vo} {y : Vo} {k : Nat} (h : putK vs y k = false) : ∀ x ∈ vs.take k, ¬ keyOf y < keyOf x := by
  unfold putK at h
  rw [List.any_eq_false] at h
  intro x hx; simpa using h x hx

theorem outK_put {vs : List Vo} {y : Vo} {k : Nat} (hk : k < vs.length) (h : putK vs y k = true) : outK vs y (k + 1) = outK vs y k ++ [vth vs k] := by
  have h2 : putK vs y (k + 1) = true := by rw [putK_succ _ _ _ hk, h]; rfl
  rw [outK, outK, if_pos h, if_pos h2, take_vo _ _ hk, addF_app_some _ _ _ (putK_some h)]

theorem outK_now {vs : List Vo} {y : Vo} {k : Nat} (hk : k < vs.length) (h : putK vs y k = false) (hg : keyOf y < keyOf (vth vs k)) : outK vs y (k + 1) = outK vs y k ++ [y] ++ [vth vs k] := by
  have h2 : putK vs y (k + 1) = true := by rw [putK_succ _ _ _ hk]; simp [hg]
  rw [outK, outK, if_pos h2, h, if_neg (by simp), take_vo _ _ hk, addF_app_none _ _ _ (putK_none h)]
  simp [addF, hg]

theorem outK_not {vs : List Vo} {y : Vo} {k : Nat} (hk : k < vs.length) (h : putK vs y k = false) (hg : ¬ keyOf y < keyOf (vth vs k)) : outK vs y (k + 1) = outK vs y k ++ [vth vs k] ∧ putK vs y (k + 1) = false := by
  have h2 : putK vs y (k + 1) = false := by rw [putK_succ _ _ _ hk, h]; simp; omega
  refine ⟨?_, h2⟩
  rw [outK, outK, h, h2, if_neg (by simp), if_neg (by simp), take_vo _ _ hk]

theorem outK_end {vs : List Vo} {y : Vo} (h : putK vs y vs.length = true) : outK vs y vs.length = addF vs y := by
  rw [outK, if_pos h, List.take_length]

theorem outK_last {vs : List Vo} {y : Vo} (h : putK vs y vs.length = false) : outK vs y vs.length ++ [y] = addF vs y := by
  have := addF_app_none vs [] y (by have := putK_none h; rwa [List.take_length] at this)
  rw [List.append_nil] at this
  rw [outK, h, if_neg (by simp), List.take_length, this]; rfl

theorem outK_len (vs : List Vo) (y : Vo) (k : Nat) (hk : k ≤ vs.length) : (outK vs y k).length ≤ k + 1 := by
  unfold outK; split
  · rw [len_addF, List.length_take]; omega
  · rw [List.length_take]; omega

theorem name_gt (a b : ByteArray) (ha : nameB a.data.toList = true) (hb : nameB b.data.toList = true) : (!(Op.bytesLess a.toList b.toList || a.toList == b.toList)) = decide (keyL b.data.toList < keyL a.data.toList) := by
  rw [ByteArray.toList_eq, ByteArray.toList_eq]
  obtain ⟨_, _, c, hc⟩ := nameB_key ha
  obtain ⟨_, _, d, hd⟩ := nameB_key hb
  rw [hc, hd]
  simp only [keyL, Op.bytesLess]
  have e1 : (c < d) ↔ c.toNat < d.toNat := UInt8.lt_iff_toNat_lt
  have e2 : (c = d) ↔ c.toNat = d.toNat := UInt8.toNat_inj.symm
  by_cases h1 : c < d
  · have h3 : ¬ d.toNat < c.toNat := by rw [e1] at h1; omega
    simp [h1, h3]
  · by_cases h2 : c = d
    · subst h2; simp
    · have h3 : d.toNat < c.toNat := by rw [e1] at h1; rw [e2] at h2; omega
      simp [h1, h2, h3]

theorem RowOk.move {B : Nat} {w : World} {v : Value} {r : Rw} {x : Vo} (h : RowOk B w v r x) {W : World} (hb : Below w.heap.size w W) {v5 : Value} (h5 : ∀ q, v5.ownBlock = some q → w.heap.size ≤ q) : RowOk B W v5 r x := by
  obtain ⟨hn, gb, cap, e, h1, h2, h3, h4, h6, _⟩ := h
  exact ⟨hn, gb, cap, e, h1, Nat.lt_of_lt_of_le h2 hb.size, h3, h4, intsW_below h6 hb h2, fun e2 => by have := h5 gb e2; omega⟩

/-- The slice that grows, when K of the old disks have come, and the new one if P. -/
structure AddSt (B : Nat) (w W3 : World) (rs : List Rw) (r : Rw) (K : Nat) (P : Bool) (out : List Vo) (v5 : Value) (rs5 : List Rw) (wr : World) : Prop where
  own : OwnVR B wr v5 rs5 out
  low : ∀ q, v5.ownBlock = some q → w.heap.size + 3 ≤ q
  frm : ∀ i, i < out.length → (∃ j, j < K ∧ rth rs5 i = rth rs j) ∨ (P = true ∧ rth rs5 i = r)
  bel : Below (w.heap.size + 3) W3 wr
  big : w.heap.size + 3 ≤ wr.heap.size

theorem AddSt.app {B : Nat} {w W3 : World} {rs : List Rw} {r : Rw} {K K' : Nat} {P P' : Bool} {out : List Vo} {v5 v' : Value} {rs5 : List Rw} {wr w1 : World} {q : Rw} {x : Vo} (h : AddSt B w W3 rs r K P out v5 rs5 wr)
    (hV : OwnVR B w1 v' (rs5 ++ [q]) (out ++ [x])) (hg : wr.grownBy w1 v5.ownBlock) (hv : v'.ownBlock = v5.ownBlock ∨ ∃ g, v'.ownBlock = some g ∧ wr.heap.size ≤ g)
    (hq : (∃ j, j < K' ∧ q = rth rs j) ∨ (P' = true ∧ q = r)) (hK : K ≤ K') (hP : P = true → P' = true) : AddSt B w W3 rs r K' P' (out ++ [x]) v' (rs5 ++ [q]) w1 := by
  have hbig := h.big
  refine ⟨hV, fun b hb => ?_, fun i hi => ?_, h.bel.grown hg hbig (fun k e => h.low k e), Nat.le_trans hbig hg.size⟩
  · rcases hv with hv | ⟨g, hv, hl⟩
    · rw [hv] at hb; exact h.low b hb
    · rw [hv] at hb; injection hb; omega
  · simp only [List.length_append, List.length_cons, List.length_nil, Nat.zero_add] at hi
    by_cases e : i < out.length
    · rw [rth_append_left _ _ _ (by rw [h.own.len]; exact e)]
      rcases h.frm i e with ⟨j, hj, hjj⟩ | ⟨hp, hr⟩
      · exact .inl ⟨j, by omega, hjj⟩
      · exact .inr ⟨hP hp, hr⟩
    · obtain rfl : i = out.length := by omega
      have e2 : rth (rs5 ++ [q]) out.length = q := by rw [← h.own.len]; exact rth_append_at rs5 q
      rw [e2]; exact hq

theorem AddSt.next {B : Nat} {w W3 : World} {rs : List Rw} {r : Rw} {K : Nat} {P : Bool} {out : List Vo} {v5 : Value} {rs5 : List Rw} {wr w1 : World} (h : AddSt B w W3 rs r K P out v5 rs5 wr) (hb : Below wr.heap.size wr w1) : AddSt B w W3 rs r K P out v5 rs5 w1 :=
  ⟨h.own.below hb (Nat.le_refl _), h.low, h.frm, h.bel.trans (hb.mono h.big), Nat.le_trans h.big hb.size⟩

theorem OwnVR.setFar {B : Nat} {w : World} {v : Value} {rs : List Rw} {vs : List Vo} (h : OwnVR B w v rs vs) (p : Addr) (hp : v.ownBlock ≠ some p.block) (hr : ∀ i, i < vs.length → blkOf (rth rs i).val ≠ p.block) (u : Value) : OwnVR B (w.setCell p u) v rs vs := by
  refine ⟨⟨h.arr.1, ?_⟩, h.len, fun i hi => ?_, h.apart⟩
  · rcases h.arr.2 with h2 | ⟨g, cap, cur, hv, h3, h4, h5⟩
    · exact .inl h2
    · refine .inr ⟨g, cap, cur, hv, h3, (Below.heap_setCell w p u g (fun e => hp ?_)).trans h4, h5⟩
      rw [hv, ← e]; rfl
  · obtain ⟨hn, gb, cap, e, h1, h2, h3, h4, h5, h6⟩ := h.row i hi
    have hne : gb ≠ p.block := by
      have := hr i hi
      rw [e] at this; exact this
    exact ⟨hn, gb, cap, e, h1, by simpa [World.setCell] using h2, h3, h4, intsW_kept h5 (grownBy_setCell w p u) h2 (fun e2 => hne (by simpa using e2)), h6⟩

/-- What is written into the boxes leaves the slice. -/
theorem addSt_far {B : Nat} {w W3 : World} {rs : List Rw} {r : Rw} {K : Nat} {P : Bool} {out vs : List Vo} {v5 v : Value} {rs5 : List Rw} {wr : World} {y : Vo} (h : AddSt B w W3 rs r K P out v5 rs5 wr) (hV : OwnVR B w v rs vs) (hl : vs.length = K) (hr : RowOk B w v r y) (u1 u2 u3 : Value) :
    OwnVR B (((wr.setCell ⟨w.heap.size, 1, none⟩ u1).setCell ⟨w.heap.size + 1 + 1, 0, none⟩ u2).setCell ⟨w.heap.size + 1 + 1, 1, none⟩ u3) v5 rs5 out := by
  have hb : ∀ i, i < out.length → blkOf (rth rs5 i).val < w.heap.size := fun i hi => by
    rcases h.frm i hi with ⟨j, hj, e⟩ | ⟨_, e⟩
    · rw [e]; exact (hV.blk_lt j (by omega)).2
    · rw [e]
      obtain ⟨_, gb, cap, e2, _, h2, _⟩ := hr
      rw [e2]; exact h2
  have ho : ∀ b, b < w.heap.size + 3 → v5.ownBlock ≠ some b := fun b hb e => by have := h.low b e; omega
  exact ((h.own.setFar _ (ho _ (by simp)) (fun i hi => by have := hb i hi; simp; omega) _).setFar _ (ho _ (by simp)) (fun i hi => by have := hb i hi; simp; omega) _).setFar _ (ho _ (by simp)) (fun i hi => by have := hb i hi; simp; omega) _

end Go.Proofs.YtplicodloanljaaDoor
