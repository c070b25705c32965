/- The model's l11Add: a disk is put where its name stands. -/
import Derived.Test.YtgogokahpmljbaaPoolRead
import Derived.WalkLawsBesides
import Derived.Deep.Cut
namespace Go.Proofs.Ytgogokahpmljbaa
open Go.RowKit
set_option linter.unusedVariables false
set_option maxRecDepth 100000

theorem addF_app_some (xs ys : List Vo) (y : Vo) (h : ∃ x ∈ xs, keyOf y < keyOf x) : addF (xs ++ ys) y = addF xs y ++ ys := by
  induction xs with
  | nil => obtain ⟨x, hx, _⟩ := h; cases hx
  | cons a xs ih =>
    simp only [List.cons_append, addF]
    by_cases ha : keyOf y < keyOf a
    · rw [if_pos ha, if_pos ha]; rfl
    · rw [if_neg ha, if_neg ha, ih (by
        obtain ⟨x, hx, hk⟩ := h
        rcases List.mem_cons.1 hx with rfl | hx
        · exact absurd hk ha
        · exact ⟨x, hx, hk⟩)]; rfl

theorem addF_app_none (xs ys : List Vo) (y : Vo) (h : ∀ x ∈ xs, ¬ keyOf y < keyOf x) : addF (xs ++ ys) y = xs ++ addF ys y := by
  induction xs with
  | nil => rfl
  | cons a xs ih =>
    simp only [List.cons_append, addF]
    rw [if_neg (h a (by simp)), ih (fun x hx => h x (by simp [hx]))]

/-- Whether the new disk stands among the first k already, and these. -/
def putK (vs : List Vo) (y : Vo) (k : Nat) : Bool := (vs.take k).any (fun x => decide (keyOf y < keyOf x))

def outK (vs : List Vo) (y : Vo) (k : Nat) : List Vo := if putK vs y k = true then addF (vs.take k) y else vs.take k

theorem putK_succ (vs : List Vo) (y : Vo) (k : Nat) (hk : k < vs.length) : putK vs y (k + 1) = (putK vs y k || decide (keyOf y < keyOf (vth vs k))) := by
  unfold putK; rw [take_vo _ _ hk, List.any_append]; simp

theorem putK_some {vs : List Vo} {y : Vo} {k : Nat} (h : putK vs y k = true) : ∃ x ∈ vs.take k, keyOf y < keyOf x := by
  unfold putK at h
  rw [List.any_eq_true] at h
  obtain ⟨x, hx, hk⟩ := h
  exact ⟨x, hx, by simpa using hk⟩

theorem putK_none {vs : List Vo} {y : Vo} {k : Nat} (h : putK vs y k = false) : ∀ x ∈ vs.take k, ¬ keyOf y < keyOf x := by
  unfold putK at h
  rw [List.any_eq_false] at h
  intro x hx; simpa using h x hx

theorem outK_put {vs : List Vo} {y : Vo} {k : Nat} (hk : k < vs.length) (h : putK vs y k = true) : outK vs y (k + 1) = outK vs y k ++ [vth vs k] := by
  have h2 : putK vs y (k + 1) = true := by rw [putK_succ _ _ _ hk, h]; rfl
  rw [outK, outK, if_pos h, if_pos h2, take_vo _ _ hk, addF_app_some _ _ _ (putK_some h)]

theorem outK_now {vs : List Vo} {y : Vo} {k : Nat} (hk : k < vs.length) (h : putK vs y k = false) (hg : keyOf y < keyOf (vth vs k)) : outK vs y (k + 1) = outK vs y k ++ [y] ++ [vth vs k] := by
  have h2 : putK vs y (k + 1) = true := by rw [putK_succ _ _ _ hk]; simp [hg]
  rw [outK, outK, if_pos h2, h, if_neg (by simp), take_vo _ _ hk, addF_app_none _ _ _ (putK_none h)]
  simp [addF, hg]

theorem outK_not {vs : List Vo} {y : Vo} {k : Nat} (hk : k < vs.length) (h : putK vs y k = false) (hg : ¬ keyOf y < keyOf (vth vs k)) : outK vs y (k + 1) = outK vs y k ++ [vth vs k] ∧ putK vs y (k + 1) = false := by
  have h2 : putK vs y (k + 1) = false := by rw [putK_succ _ _ _ hk, h]; simp; omega
  refine ⟨?_, h2⟩
  rw [outK, outK, h, h2, if_neg (by simp), if_neg (by simp), take_vo _ _ hk]

theorem outK_end {vs : List Vo} {y : Vo} (h : putK vs y vs.length = true) : outK vs y vs.length = addF vs y := by
  rw [outK, if_pos h, List.take_length]

theorem outK_last {vs : List Vo} {y : Vo} (h : putK vs y vs.length = false) : outK vs y vs.length ++ [y] = addF vs y := by
  have := addF_app_none vs [] y (by have := putK_none h; rwa [List.take_length] at this)
  rw [List.append_nil] at this
  rw [outK, h, if_neg (by simp), List.take_length, this]; rfl

theorem outK_len (vs : List Vo) (y : Vo) (k : Nat) (hk : k ≤ vs.length) : (outK vs y k).length ≤ k + 1 := by
  unfold outK; split
  · rw [len_addF, List.length_take]; omega
  · rw [List.length_take]; omega

theorem name_gt (a b : ByteArray) (ha : nameB a.data.toList = true) (hb : nameB b.data.toList = true) : (!(Op.bytesLess a.toList b.toList || a.toList == b.toList)) = decide (keyL b.data.toList < keyL a.data.toList) := by
  rw [ByteArray.toList_eq, ByteArray.toList_eq]
  obtain ⟨_, _, c, hc⟩ := nameB_key ha
  obtain ⟨_, _, d, hd⟩ := nameB_key hb
  rw [hc, hd]
  simp only [keyL, Op.bytesLess]
  have e1 : (c < d) ↔ c.toNat < d.toNat := UInt8.lt_iff_toNat_lt
  have e2 : (c = d) ↔ c.toNat = d.toNat := UInt8.toNat_inj.symm
  by_cases h1 : c < d
  · have h3 : ¬ d.toNat < c.toNat := by rw [e1] at h1; omega
    simp [h1, h3]
  · by_cases h2 : c = d
    · subst h2; simp
    · have h3 : d.toNat < c.toNat := by rw [e1] at h1; rw [e2] at h2; omega
      simp [h1, h2, h3]

theorem RowOk.move {B : Nat} {w : World} {v : Value} {r : Rw} {x : Vo} (h : RowOk B w v r x) {W : World} (hb : Below w.heap.size w W) {v5 : Value} (h5 : ∀ q, v5.ownBlock = some q → w.heap.size ≤ q) : RowOk B W v5 r x := by
  obtain ⟨hn, gb, cap, e, h1, h2, h3, h4, h6, _⟩ := h
  exact ⟨hn, gb, cap, e, h1, Nat.lt_of_lt_of_le h2 hb.size, h3, h4, intsW_below h6 hb h2, fun e2 => by have := h5 gb e2; omega⟩

/-- The slice that grows, when K of the old disks have come, and the new one if P. -/
structure AddSt (B : Nat) (w W3 : World) (rs : List Rw) (r : Rw) (K : Nat) (P : Bool) (out : List Vo) (v5 : Value) (rs5 : List Rw) (wr : World) : Prop where
  own : OwnVR B wr v5 rs5 out
  low : ∀ q, v5.ownBlock = some q → w.heap.size + 3 ≤ q
  frm : ∀ i, i < out.length → (∃ j, j < K ∧ rth rs5 i = rth rs j) ∨ (P = true ∧ rth rs5 i = r)
  bel : Below (w.heap.size + 3) W3 wr
  big : w.heap.size + 3 ≤ wr.heap.size

theorem AddSt.app {B : Nat} {w W3 : World} {rs : List Rw} {r : Rw} {K K' : Nat} {P P' : Bool} {out : List Vo} {v5 v' : Value} {rs5 : List Rw} {wr w1 : World} {q : Rw} {x : Vo} (h : AddSt B w W3 rs r K P out v5 rs5 wr)
    (hV : OwnVR B w1 v' (rs5 ++ [q]) (out ++ [x])) (hg : wr.grownBy w1 v5.ownBlock) (hv : v'.ownBlock = v5.ownBlock ∨ ∃ g, v'.ownBlock = some g ∧ wr.heap.size ≤ g)
    (hq : (∃ j, j < K' ∧ q = rth rs j) ∨ (P' = true ∧ q = r)) (hK : K ≤ K') (hP : P = true → P' = true) : AddSt B w W3 rs r K' P' (out ++ [x]) v' (rs5 ++ [q]) w1 := by
  have hbig := h.big
  refine ⟨hV, fun b hb => ?_, fun i hi => ?_, h.bel.grown hg hbig (fun k e => h.low k e), Nat.le_trans hbig hg.size⟩
  · rcases hv with hv | ⟨g, hv, hl⟩
    · rw [hv] at hb; exact h.low b hb
    · rw [hv] at hb; injection hb; omega
  · simp only [List.length_append, List.length_cons, List.length_nil, Nat.zero_add] at hi
    by_cases e : i < out.length
    · rw [rth_append_left _ _ _ (by rw [h.own.len]; exact e)]
      rcases h.frm i e with ⟨j, hj, hjj⟩ | ⟨hp, hr⟩
      · exact .inl ⟨j, by omega, hjj⟩
      · exact .inr ⟨hP hp, hr⟩
    · obtain rfl : i = out.length := by omega
      have e2 : rth (rs5 ++ [q]) out.length = q := by rw [← h.own.len]; exact rth_append_at rs5 q
      rw [e2]; exact hq

theorem AddSt.next {B : Nat} {w W3 : World} {rs : List Rw} {r : Rw} {K : Nat} {P : Bool} {out : List Vo} {v5 : Value} {rs5 : List Rw} {wr w1 : World} (h : AddSt B w W3 rs r K P out v5 rs5 wr) (hb : Below wr.heap.size wr w1) : AddSt B w W3 rs r K P out v5 rs5 w1 :=
  ⟨h.own.below hb (Nat.le_refl _), h.low, h.frm, h.bel.trans (hb.mono h.big), Nat.le_trans h.big hb.size⟩

theorem OwnVR.setFar {B : Nat} {w : World} {v : Value} {rs : List Rw} {vs : List Vo} (h : OwnVR B w v rs vs) (p : Addr) (hp : v.ownBlock ≠ some p.block) (hr : ∀ i, i < vs.length → blkOf (rth rs i).val ≠ p.block) (u : Value) : OwnVR B (w.setCell p u) v rs vs := by
  refine ⟨⟨h.arr.1, ?_⟩, h.len, fun i hi => ?_, h.apart⟩
  · rcases h.arr.2 with h2 | ⟨g, cap, cur, hv, h3, h4, h5⟩
    · exact .inl h2
    · refine .inr ⟨g, cap, cur, hv, h3, (Below.heap_setCell w p u g (fun e => hp ?_)).trans h4, h5⟩
      rw [hv, ← e]; rfl
  · obtain ⟨hn, gb, cap, e, h1, h2, h3, h4, h5, h6⟩ := h.row i hi
    have hne : gb ≠ p.block := by
      have := hr i hi
      rw [e] at this; exact this
    exact ⟨hn, gb, cap, e, h1, by simpa [World.setCell] using h2, h3, h4, intsW_kept h5 (grownBy_setCell w p u) h2 (fun e2 => hne (by simpa using e2)), h6⟩

/-- What is written into the boxes leaves the slice. -/
theorem addSt_far {B : Nat} {w W3 : World} {rs : List Rw} {r : Rw} {K : Nat} {P : Bool} {out vs : List Vo} {v5 v : Value} {rs5 : List Rw} {wr : World} {y : Vo} (h : AddSt B w W3 rs r K P out v5 rs5 wr) (hV : OwnVR B w v rs vs) (hl : vs.length = K) (hr : RowOk B w v r y) (u1 u2 u3 : Value) :
    OwnVR B (((wr.setCell ⟨w.heap.size, 1, none⟩ u1).setCell ⟨w.heap.size + 1 + 1, 0, none⟩ u2).setCell ⟨w.heap.size + 1 + 1, 1, none⟩ u3) v5 rs5 out := by
  have hb : ∀ i, i < out.length → blkOf (rth rs5 i).val < w.heap.size := fun i hi => by
    rcases h.frm i hi with ⟨j, hj, e⟩ | ⟨_, e⟩
    · rw [e]; exact (hV.blk_lt j (by omega)).2
    · rw [e]
      obtain ⟨_, gb, cap, e2, _, h2, _⟩ := hr
      rw [e2]; exact h2
  have ho : ∀ b, b < w.heap.size + 3 → v5.ownBlock ≠ some b := fun b hb e => by have := h.low b e; omega
  exact ((h.own.setFar _ (ho _ (by simp)) (fun i hi => by have := hb i hi; simp; omega) _).setFar _ (ho _ (by simp)) (fun i hi => by have := hb i hi; simp; omega) _).setFar _ (ho _ (by simp)) (fun i hi => by have := hb i hi; simp; omega) _

set_option maxHeartbeats 3200000 in
theorem l11Add_any (sa : Option Addr) (sn sc : Nat) (a : Option Addr) (n c B gu nu cu : Nat) (rs : List Rw) (vs : List Vo) (nm : ByteArray) (bs : List Int) (w : World) (hV : OwnVR B w (.slice a n c) rs vs) (hl : vs.length = n) (hn : n ≤ 900)
    (hy : RowOk B w (.slice a n c) ⟨nm, .slice (some ⟨gu, 0, none⟩) nu cu⟩ ⟨nm, bs⟩) (hd : ∀ i, i < n → blkOf (rth rs i).val ≠ gu) (hnm : nameB nm.data.toList = true) (hns : ∀ i, i < n → nameB (vth vs i).name.data.toList = true) (hB : B ≤ w.heap.size) :
    Calls Try.prog 52 #[.agg #[.slice sa sn sc, .slice a n c], .agg #[.string nm, .slice (some ⟨gu, 0, none⟩) nu cu]] w fun e w' => ∃ v' rs', e = .returned (.agg #[.slice sa sn sc, v']) ∧
      OwnVR B w' v' rs' (addF vs ⟨nm, bs⟩) ∧ (∀ q, v'.ownBlock = some q → w.heap.size ≤ q) ∧ (∀ i, i < (addF vs ⟨nm, bs⟩).length → (∃ j, j < n ∧ rth rs' i = rth rs j) ∨ rth rs' i = ⟨nm, .slice (some ⟨gu, 0, none⟩) nu cu⟩) ∧ Below w.heap.size w w' := by
  have hb3 : Below w.heap.size w (((w.alloc (.cells #[.slice sa sn sc, .slice a n c] 50)).alloc (.cells #[.string nm, .slice (some ⟨gu, 0, none⟩) nu cu] 25)).alloc (.cells #[.slice none 0 0, .slice none 0 0] 50)) := (((Below.refl _ _).alloc (Nat.le_refl _) _).alloc (by simp) _).alloc (by simp; omega) _
  have n0 := new_cells w #[.slice sa sn sc, .slice a n c] 50
  have n1 := new_cells (w.alloc (.cells #[.slice sa sn sc, .slice a n c] 50)) #[.string nm, .slice (some ⟨gu, 0, none⟩) nu cu] 25
  have n2 := new_cells ((w.alloc (.cells #[.slice sa sn sc, .slice a n c] 50)).alloc (.cells #[.string nm, .slice (some ⟨gu, 0, none⟩) nu cu] 25)) #[.slice none 0 0, .slice none 0 0] 50
  have o0 := fun i => (old_cells ((w.alloc (.cells #[.slice sa sn sc, .slice a n c] 50)).alloc (.cells #[.string nm, .slice (some ⟨gu, 0, none⟩) nu cu] 25)) (.cells #[.slice none 0 0, .slice none 0 0] 50) w.heap.size i (by simp; omega)).1.trans (old_cells (w.alloc (.cells #[.slice sa sn sc, .slice a n c] 50)) (.cells #[.string nm, .slice (some ⟨gu, 0, none⟩) nu cu] 25) w.heap.size i (by simp)).1
  have p0 := fun i => (old_cells ((w.alloc (.cells #[.slice sa sn sc, .slice a n c] 50)).alloc (.cells #[.string nm, .slice (some ⟨gu, 0, none⟩) nu cu] 25)) (.cells #[.slice none 0 0, .slice none 0 0] 50) w.heap.size i (by simp; omega)).2.trans (old_cells (w.alloc (.cells #[.slice sa sn sc, .slice a n c] 50)) (.cells #[.string nm, .slice (some ⟨gu, 0, none⟩) nu cu] 25) w.heap.size i (by simp)).2
  have o1 := fun i => (old_cells ((w.alloc (.cells #[.slice sa sn sc, .slice a n c] 50)).alloc (.cells #[.string nm, .slice (some ⟨gu, 0, none⟩) nu cu] 25)) (.cells #[.slice none 0 0, .slice none 0 0] 50) (w.heap.size + 1) i (by simp)).1
  simp only [World.size_alloc] at n1 n2
  have hfacts : ∀ W, Below (w.heap.size + 3) (((w.alloc (.cells #[.slice sa sn sc, .slice a n c] 50)).alloc (.cells #[.string nm, .slice (some ⟨gu, 0, none⟩) nu cu] 25)).alloc (.cells #[.slice none 0 0, .slice none 0 0] 50)) W → W.cell? ⟨w.heap.size, 0, none⟩ = some (.slice sa sn sc) ∧ W.cell? ⟨w.heap.size, 1, none⟩ = some (.slice a n c) ∧ W.frozen? ⟨w.heap.size, 1, none⟩ = false ∧
      W.cell? ⟨w.heap.size + 1, 0, none⟩ = some (.string nm) ∧ W.cell? ⟨w.heap.size + 1, 1, none⟩ = some (.slice (some ⟨gu, 0, none⟩) nu cu) ∧
      W.cell? ⟨w.heap.size + 1 + 1, 0, none⟩ = some (.slice none 0 0) ∧ W.cell? ⟨w.heap.size + 1 + 1, 1, none⟩ = some (.slice none 0 0) ∧ W.frozen? ⟨w.heap.size + 1 + 1, 0, none⟩ = false ∧ W.frozen? ⟨w.heap.size + 1 + 1, 1, none⟩ = false := fun W hb =>
    ⟨(hb.cell (p := ⟨w.heap.size, 0, none⟩) (by show w.heap.size < _; omega)).trans ((o0 0).trans (n0.1 0)), (hb.cell (p := ⟨w.heap.size, 1, none⟩) (by show w.heap.size < _; omega)).trans ((o0 1).trans (n0.1 1)), (hb.frozen (p := ⟨w.heap.size, 1, none⟩) (by show w.heap.size < _; omega)).trans ((p0 1).trans (n0.2 1)),
     (hb.cell (p := ⟨w.heap.size + 1, 0, none⟩) (by show w.heap.size + 1 < _; omega)).trans ((o1 0).trans (n1.1 0)), (hb.cell (p := ⟨w.heap.size + 1, 1, none⟩) (by show w.heap.size + 1 < _; omega)).trans ((o1 1).trans (n1.1 1)),
     (hb.cell (p := ⟨w.heap.size + 1 + 1, 0, none⟩) (by show w.heap.size + 1 + 1 < _; omega)).trans (n2.1 0), (hb.cell (p := ⟨w.heap.size + 1 + 1, 1, none⟩) (by show w.heap.size + 1 + 1 < _; omega)).trans (n2.1 1),
     (hb.frozen (p := ⟨w.heap.size + 1 + 1, 0, none⟩) (by show w.heap.size + 1 + 1 < _; omega)).trans (n2.2 0), (hb.frozen (p := ⟨w.heap.size + 1 + 1, 1, none⟩) (by show w.heap.size + 1 + 1 < _; omega)).trans (n2.2 1)⟩
  have hown := World.ownsRow_made (e := 25) (((w.alloc (.cells #[.slice sa sn sc, .slice a n c] 50)).alloc (.cells #[.string nm, .slice (some ⟨gu, 0, none⟩) nu cu] 25)).alloc (.cells #[.slice none 0 0, .slice none 0 0] 50)) #[] 0 (Nat.le_refl _) (by unfold maxLen; omega) rfl (size := 2)
  simp only [World.size_alloc] at hown
  have HOWN := Lib.hid hown
  have HF := Lib.hid hfacts
  have HB3 := Lib.hid hb3
  have HV := Lib.hid hV
  have HY := Lib.hid hy
  have HD := Lib.hid hd
  have HL := Lib.hid hl
  have HNM := Lib.hid hnm
  have HNS := Lib.hid hns
  obtain ⟨W3, hW3⟩ : ∃ W3, W3 = (((w.alloc (.cells #[.slice sa sn sc, .slice a n c] 50)).alloc (.cells #[.string nm, .slice (some ⟨gu, 0, none⟩) nu cu] 25)).alloc (.cells #[.slice none 0 0, .slice none 0 0] 50)) := ⟨_, rfl⟩
  have HW3 := Lib.hid hW3
  rw [← hW3] at HF HB3
  clear n0 n1 n2 o0 p0 o1 hfacts hown hb3 hV hy hd hl hnm hns hW3
  go_enter Try.func52, Try.ntmps52
  go_wp2_with fail
  go_loopw [5, 6, 7] (fun v5 p i wr => ∃ (k : Nat) (rs5 : List Rw), k ≤ n ∧ i = .int .i64 (k : Int) ∧ p = .bool (putK vs ⟨nm, bs⟩ k) ∧ AddSt B w W3 rs ⟨nm, .slice (some ⟨gu, 0, none⟩) nu cu⟩ k (putK vs ⟨nm, bs⟩ k) (outK vs ⟨nm, bs⟩ k) v5 rs5 wr) (fun _ _ i _ => n - (intOf i).toNat)
  case atStart =>
    refine ⟨0, [], by omega, rfl, rfl, ⟨⟨?_, rfl, fun i hi => ?_, fun i j _ hj => ?_⟩, fun q hq => ?_, fun i hi => ?_, ?_, by simp⟩⟩
    · have h1 := HOWN.out
      refine ⟨rfl, .inr ?_⟩
      rcases h1.2 with ⟨e, _⟩ | ⟨g, cap, cur, e, hb, h4⟩
      · cases e
      · exact ⟨g, cap, cur, e, by omega, h4⟩
    · simp [outK, putK] at hi
    · simp [outK, putK] at hj
    · injection hq with hq; simp at hq; omega
    · simp [outK, putK] at hi
    · rw [HW3.out]; exact (Below.refl _ _).alloc (by simp) _
  case round =>
    obtain ⟨k, rs5, hk, rfl, rfl, hA⟩ := hrel
    obtain ⟨va, vn, vc, rfl⟩ := arr_slice hA.own.arr
    obtain ⟨b0, b1, bz1, c0, c1, d0, d1, z0, z1⟩ := HF.out wr hA.bel
    have HA := Lib.hid hA
    have hsz := hA.big
    have HBW := Lib.hid (fun W (hb : Below (w.heap.size + 3) W3 W) => HB3.out.trans (hb.mono (by omega)))
    have HOL := Lib.hid (outK_len vs ⟨nm, bs⟩ k (by rw [HL.out]; omega))
    clear hA
    by_cases hlt : k < n
    · obtain ⟨g, cap, hav, hgB, hgl, hcap, hrows, _⟩ := HV.out.rows (by rw [HL.out]; omega)
      injection hav with ea en ec
      subst ea ec
      clear en
      have HRW := Lib.hid (fun W (hb : Below (w.heap.size + 3) W3 W) => rowsAt_below hrows (HBW.out W hb) hgl k (by rw [HV.out.len, HL.out]; exact hlt))
      have HRK := Lib.hid (HV.out.row k (by rw [HL.out]; exact hlt))
      have HNK := Lib.hid (HNS.out k hlt)
      have HAP := Lib.hid (fun j (hj : j < k) => HV.out.apart j k hj (by rw [HL.out]; exact hlt))
      have HDK := Lib.hid (HD.out k hlt)
      have HPS := Lib.hid (putK_succ vs ⟨nm, bs⟩ k (by rw [HL.out]; exact hlt))
      have HO1 := Lib.hid (fun h => outK_put (y := ⟨nm, bs⟩) (k := k) (vs := vs) (by rw [HL.out]; exact hlt) h)
      have HO2 := Lib.hid (fun h => outK_now (y := ⟨nm, bs⟩) (k := k) (vs := vs) (by rw [HL.out]; exact hlt) h)
      have HO3 := Lib.hid (fun h => outK_not (y := ⟨nm, bs⟩) (k := k) (vs := vs) (by rw [HL.out]; exact hlt) h)
      have HQ : Hid (∃ q, rth rs k = q) := Lib.hid ⟨_, rfl⟩
      obtain ⟨q, hq⟩ := HQ.out
      have HQ := Lib.hid hq
      obtain ⟨x, hx⟩ : ∃ x, vth vs k = x := ⟨_, rfl⟩
      rw [hq] at HRW HRK HAP HDK
      rw [hx] at HRK HNK HPS HO1 HO2 HO3
      clear hq hx hrows
      obtain ⟨gb, nb, cb, hqv⟩ := HRK.out.one
      have hqn := HRK.out.1
      obtain ⟨qn, qv⟩ := q
      obtain ⟨xn, xb⟩ := x
      simp only at hqv hqn
      subst hqv hqn
      simp only [Nat.zero_add] at HRW HNK HAP HDK
      obtain ⟨hc, hcv⟩ := HRW.out wr HA.out.bel
      have HGT := Lib.hid (name_gt qn nm HNK.out HNM.out)
      obtain ⟨G, hG⟩ : ∃ G, decide (keyL nm.data.toList < keyL qn.data.toList) = G := ⟨_, rfl⟩
      have HG := Lib.hid hG
      rw [hG] at HGT
      have hgt := HGT.out
      obtain ⟨P, hP⟩ : ∃ P, putK vs ⟨nm, bs⟩ k = P := ⟨_, rfl⟩
      have HP := Lib.hid hP
      rw [hP] at HA HPS
      rw [hP]
      clear hP hG
      have HRQ := Lib.hid (fun W v5 (hb : Below (w.heap.size + 3) W3 W) (h5 : ∀ q, v5.ownBlock = some q → w.heap.size + 3 ≤ q) => HRK.out.move (v5 := v5) (HBW.out W hb) (fun q hq => by have := h5 q hq; omega))
      have HDQ := Lib.hid (fun (rs6 : List Rw) (out : List Vo) (v6 : Value) (W : World) (P : Bool) (h : AddSt B w W3 rs ⟨nm, .slice (some ⟨gu, 0, none⟩) nu cu⟩ k P out v6 rs6 W) i (hi : i < out.length) => (show blkOf (rth rs6 i).val ≠ gb from by
        rcases h.frm i hi with ⟨j, hj, e⟩ | ⟨_, e⟩
        · rw [e]; exact HAP.out j hj
        · rw [e]; exact fun e2 => HDK.out e2.symm))
      cases P
      · cases G
        · have hgn : ¬ keyOf ⟨nm, bs⟩ < keyOf ⟨qn, xb⟩ := by have := HG.out; simpa [keyOf] using this
          have HE := Lib.hid (HO3.out HP.out hgn)
          clear hgn
          go_wp2_with fail
          go_quiet (fail)
          have HA2 := Lib.hid (HA.out.next (w1 := wr.drewN nq) (Drawn.below ⟨nq, rfl⟩ _))
          have HR := Lib.hid (HRQ.out (wr.drewN nq) (.slice va vn vc) HA2.out.bel HA2.out.low)
          go_wp2_with (at_builtin; refine wpList_append_vol (wr.drewN nq) rfl _ _ rfl B _ rs5 _ HA2.out.own rfl ⟨qn, _⟩ ⟨qn, xb⟩ HR.out (HDQ.out _ _ _ _ _ HA2.out) rfl (by have := HOL.out; (try simp only [List.length_append, List.length_cons, List.length_nil]); omega) (by have := HA2.out.big; omega) ?_; intro v' w4 hV4 hg4 hat4)
          have hA4 := HA2.out.app (K' := k + 1) (P' := false) hV4 hg4 hat4 (.inl ⟨k, by omega, HQ.out.symm⟩) (by omega) (fun h => h)
          rw [← HE.out.1] at hA4
          have HA4 := Lib.hid hA4
          clear hA4 hV4 hg4 hat4
          go_roundw
          case rel => exact ⟨k + 1, _, by omega, by go_num, by rw [HE.out.2], by rw [HE.out.2]; exact HA4.out⟩
          case measure => simp [intOf]; omega
        · have hgn : keyOf ⟨nm, bs⟩ < keyOf ⟨qn, xb⟩ := by have := HG.out; simpa [keyOf] using this
          have HE := Lib.hid (HO2.out HP.out hgn)
          have HEP : Hid (putK vs ⟨nm, bs⟩ (k + 1) = true) := Lib.hid (by rw [HPS.out]; simp [hgn])
          clear hgn
          go_wp2_with fail
          go_quiet (fail)
          have HA2 := Lib.hid (HA.out.next (w1 := wr.drewN nq) (Drawn.below ⟨nq, rfl⟩ _))
          have HR := Lib.hid (HY.out.move (v5 := .slice va vn vc) (HBW.out (wr.drewN nq) HA2.out.bel) (fun q hq => by have := HA2.out.low q hq; omega))
          have HDN : Hid (∀ i, i < (outK vs ⟨nm, bs⟩ k).length → blkOf (rth rs5 i).val ≠ gu) := Lib.hid (fun i hi => by
            rcases HA2.out.frm i hi with ⟨j, hj, e⟩ | ⟨hp, _⟩
            · rw [e]; exact HD.out j (by omega)
            · cases hp)
          go_upto_region 9 with (at_builtin; refine wpList_append_vol (wr.drewN nq) rfl _ _ rfl B _ rs5 _ HA2.out.own rfl ⟨nm, _⟩ ⟨nm, bs⟩ HR.out HDN.out rfl (by have := HOL.out; (try simp only [List.length_append, List.length_cons, List.length_nil]); omega) (by have := HA2.out.big; omega) ?_; intro v6 w4 hV4 hg4 hat4)
          have hA4 := HA2.out.app (K' := k) (P' := true) hV4 hg4 hat4 (.inr ⟨rfl, rfl⟩) (Nat.le_refl _) (fun _ => rfl)
          have HA4 := Lib.hid hA4
          clear hA4 hV4 hg4 hat4 hc hcv b0 b1 bz1 c0 c1 d0 d1 z0 z1
          obtain ⟨b0, b1, bz1, c0, c1, d0, d1, z0, z1⟩ := HF.out w4 HA4.out.bel
          obtain ⟨hc, hcv⟩ := HRW.out w4 HA4.out.bel
          have HR4 := Lib.hid (HRQ.out w4 v6 HA4.out.bel HA4.out.low)
          go_wp2_with (at_builtin; refine wpList_append_vol w4 rfl _ _ rfl B _ _ _ HA4.out.own rfl ⟨qn, _⟩ ⟨qn, xb⟩ HR4.out (HDQ.out _ _ _ _ _ HA4.out) rfl (by have := HOL.out; (try simp only [List.length_append, List.length_cons, List.length_nil]); omega) (by have := HA4.out.big; omega) ?_; intro v' w5 hV5 hg5 hat5)
          have hA5 := HA4.out.app (K' := k + 1) (P' := true) hV5 hg5 hat5 (.inl ⟨k, by omega, HQ.out.symm⟩) (by omega) (fun h => h)
          rw [← HE.out] at hA5
          have HA5 := Lib.hid hA5
          clear hA5 hV5 hg5 hat5
          go_roundw
          case rel => exact ⟨k + 1, _, by omega, by go_num, by rw [HEP.out], by rw [HEP.out]; exact HA5.out⟩
          case measure => simp [intOf]; omega
      · have HE := Lib.hid (HO1.out HP.out)
        have HEP : Hid (putK vs ⟨nm, bs⟩ (k + 1) = true) := Lib.hid (by rw [HPS.out]; rfl)
        go_wp2_with fail
        go_quiet (fail)
        have HA2 := Lib.hid (HA.out.next (w1 := wr.drewN nq) (Drawn.below ⟨nq, rfl⟩ _))
        have HR := Lib.hid (HRQ.out (wr.drewN nq) (.slice va vn vc) HA2.out.bel HA2.out.low)
        go_wp2_with (at_builtin; refine wpList_append_vol (wr.drewN nq) rfl _ _ rfl B _ rs5 _ HA2.out.own rfl ⟨qn, _⟩ ⟨qn, xb⟩ HR.out (HDQ.out _ _ _ _ _ HA2.out) rfl (by have := HOL.out; (try simp only [List.length_append, List.length_cons, List.length_nil]); omega) (by have := HA2.out.big; omega) ?_; intro v' w4 hV4 hg4 hat4)
        have hA4 := HA2.out.app (K' := k + 1) (P' := true) hV4 hg4 hat4 (.inl ⟨k, by omega, HQ.out.symm⟩) (by omega) (fun h => h)
        rw [← HE.out] at hA4
        have HA4 := Lib.hid hA4
        clear hA4 hV4 hg4 hat4
        go_roundw
        case rel => exact ⟨k + 1, _, by omega, by go_num, by rw [HEP.out], by rw [HEP.out]; exact HA4.out⟩
        case measure => simp [intOf]; omega
    · obtain rfl : k = n := by omega
      have HFAR := Lib.hid (fun (out : List Vo) (v6 : Value) (rs6 : List Rw) (W : World) (P : Bool) (h : AddSt B w W3 rs ⟨nm, .slice (some ⟨gu, 0, none⟩) nu cu⟩ k P out v6 rs6 W) => addSt_far h HV.out HL.out HY.out)
      obtain ⟨P, hP⟩ : ∃ P, putK vs ⟨nm, bs⟩ k = P := ⟨_, rfl⟩
      have HP := Lib.hid hP
      rw [hP] at HA
      rw [hP]
      clear hP
      cases P
      · have HE : Hid (outK vs ⟨nm, bs⟩ k ++ [⟨nm, bs⟩] = addF vs ⟨nm, bs⟩) := Lib.hid (by
          have h1 := HP.out
          rw [← HL.out] at h1 ⊢
          exact outK_last h1)
        have HR := Lib.hid (HY.out.move (v5 := .slice va vn vc) (HBW.out wr HA.out.bel) (fun q hq => by have := HA.out.low q hq; omega))
        have HDN : Hid (∀ i, i < (outK vs ⟨nm, bs⟩ k).length → blkOf (rth rs5 i).val ≠ gu) := Lib.hid (fun i hi => by
          rcases HA.out.frm i hi with ⟨j, hj, e⟩ | ⟨hp, _⟩
          · rw [e]; exact HD.out j hj
          · cases hp)
        go_upto_region 12 with (at_builtin; refine wpList_append_vol wr rfl _ _ rfl B _ rs5 _ HA.out.own rfl ⟨nm, _⟩ ⟨nm, bs⟩ HR.out HDN.out rfl (by have := HOL.out; (try simp only [List.length_append, List.length_cons, List.length_nil]); omega) (by omega) ?_; intro v6 w4 hV4 hg4 hat4)
        have hA4 := HA.out.app (K' := k) (P' := true) hV4 hg4 hat4 (.inr ⟨rfl, rfl⟩) (Nat.le_refl _) (fun _ => rfl)
        rw [HE.out] at hA4
        have HA4 := Lib.hid hA4
        obtain ⟨ta, tn, tc, rfl⟩ := arr_slice hA4.own.arr
        clear hA4 hV4 hg4 hat4 b0 b1 bz1 c0 c1 d0 d1 z0 z1
        obtain ⟨b0, b1, bz1, c0, c1, d0, d1, z0, z1⟩ := HF.out w4 HA4.out.bel
        go_wp2_with fail
        refine bodyPost_ret (v := .agg #[.slice sa sn sc, .slice ta tn tc]) (by simp [results, Try.f52, go_sem, d0, d1]) rfl ⟨_, _, rfl, HFAR.out _ _ _ _ _ HA4.out _ _ _, fun q hq => by have := HA4.out.low q hq; omega, fun i hi => (HA4.out.frm i hi).imp id And.right, ?_⟩
        exact (((HBW.out w4 HA4.out.bel).setCell (by simp) _).setCell (by simp; omega) _).setCell (by simp; omega) _
      · have HE : Hid (outK vs ⟨nm, bs⟩ k = addF vs ⟨nm, bs⟩) := Lib.hid (by
          have h1 := HP.out
          rw [← HL.out] at h1 ⊢
          exact outK_end h1)
        have hA4 := HA.out
        rw [HE.out] at hA4
        have HA4 := Lib.hid hA4
        clear hA4
        go_wp2_with fail
        refine bodyPost_ret (v := .agg #[.slice sa sn sc, .slice va vn vc]) (by simp [results, Try.f52, go_sem, d0, d1]) rfl ⟨_, _, rfl, HFAR.out _ _ _ _ _ HA4.out _ _ _, fun q hq => by have := HA4.out.low q hq; omega, fun i hi => (HA4.out.frm i hi).imp id And.right, ?_⟩
        exact (((HBW.out wr HA4.out.bel).setCell (by simp) _).setCell (by simp; omega) _).setCell (by simp; omega) _

end Go.Proofs.Ytgogokahpmljbaa
