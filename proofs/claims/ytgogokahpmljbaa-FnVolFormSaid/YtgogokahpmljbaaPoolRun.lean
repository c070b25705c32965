/- The state of a drawn run of changes: its pool, its box, the changes that were taken. -/
import Derived.Test.YtgogokahpmljbaaPoolFits
namespace Go.Proofs.Ytgogokahpmljbaa
open Go.RowKit
set_option linter.unusedVariables false
set_option maxRecDepth 100000

theorem infoOp : (Try.prog.info? 75).map (fun i => (i.zero, i.size, i.bytes)) = some (some (.agg #[.int .i64 0, .string ⟨#[]⟩, .string ⟨#[]⟩, .int .i64 0, .string ⟨#[]⟩]), 5, 64) := by kernel_rfl

/-- A change is appended to the call's own changes. -/
theorem wpList_append_op {ops : Array Oper} {rest : List Oper} {x : Oper} {a : Act} {Q : Exit → Act → World → Prop} (W : World) (hgd : x.guard = none) (s y : Operand)
    (ho : x.op = .call { callee := .builtin .append, args := #[s, y], argTypes := #[63, 63] })
    (B : Nat) (v : Value) (k : Nat) (xs : List Value) (hV : W.ownsRow B 75 5 v k xs) (hs : a.eval s = v) (kd : Int) (nm dst : ByteArray) (num : Int) (tx : ByteArray)
    (hx : a.eval y = .slice (some ⟨W.heap.size, 0, none⟩) 1 1) (hk : k ≤ 1000) (hB : B ≤ W.heap.size)
    (h : ∀ g cap w1, w1.ownsRow B 75 5 (.slice (some ⟨g, 0, none⟩) (k + 1) cap) (k + 1) (xs ++ [.int .i64 kd, .string nm, .string dst, .int .i64 num, .string tx]) → W.grownBy w1 v.ownBlock → (v.ownBlock = some g ∨ W.heap.size ≤ g) → g < w1.heap.size → wpList Try.prog ops Q rest (a.put x.dst (.slice (some ⟨g, 0, none⟩) (k + 1) cap)) w1) :
    wpList Try.prog ops Q (x :: rest) a (W.alloc (.cells #[.int .i64 kd, .string nm, .string dst, .int .i64 num, .string tx] 75)) := by
  obtain ⟨i0, hi, hz0, hz1, hz2⟩ := info_parts infoOp
  have hg1 := World.grownBy_alloc W (.cells #[.int .i64 kd, .string nm, .string dst, .int .i64 num, .string tx] 75) none
  have hV1 := hV.kept hg1 (by
    rcases hV.2 with ⟨e, _⟩ | ⟨g, cap, cur, e, _⟩
    · exact .inl (by rw [e]; rfl)
    · exact .inr (by rw [e]; simp [Value.ownBlock]))
  refine wpList_append_lies (W.alloc (.cells #[.int .i64 kd, .string nm, .string dst, .int .i64 num, .string tx] 75)) hgd s y 63 ho B 75 i0 _ 5 64 Try.underlying63 hi hz0 hz1 hz2 rfl (by decide) v k xs hs hV1
    ⟨W.heap.size, 0, none⟩ 1 1 [.int .i64 kd, .string nm, .string dst, .int .i64 num, .string tx] hx rfl (World.news_of_block (cs := #[.int .i64 kd, .string nm, .string dst, .int .i64 num, .string tx]) (heap_alloc_new W _)) ?_ (by decide) (by unfold maxLen; omega) (by omega) (by simp; omega) (W.heap.size + 1) (by simp) ?_
  · intro u hu
    simp only [List.mem_cons, List.not_mem_nil, or_false] at hu
    rcases hu with rfl | rfl | rfl | rfl | rfl
    all_goals rfl
  · intro g cap w1 hown hgrow hat hlt
    refine h g cap w1 hown ⟨hgrow.os, hgrow.tape, hgrow.output, by have := hgrow.size; simp at this; omega, fun k hk hn => ?_⟩ (hat.imp id (fun e => by omega)) hlt
    exact (hgrow.block k (by simp; omega) hn).trans (heap_alloc_old W _ hk)

/-- A drawn run: the pool lies in the box b, the result's box is empty. -/
structure QSt (w : World) (B P b gs cs : Nat) (v : Value) (rs : List Rw) (p : Po) (vo : Value) (k : Nat) (W : World) : Prop where
  rd : RdTo B P w W
  BL : B < w.heap.size
  lo : w.heap.size < b
  lt : b < W.heap.size
  c0 : W.cell? ⟨b, 0, none⟩ = some (.slice (some ⟨gs, 0, none⟩) 8 cs)
  c1 : W.cell? ⟨b, 1, none⟩ = some v
  f0 : W.frozen? ⟨b, 0, none⟩ = false
  f1 : W.frozen? ⟨b, 1, none⟩ = false
  d0 : W.cell? ⟨w.heap.size, 0, none⟩ = some (.slice none 0 0)
  d1 : W.cell? ⟨w.heap.size, 1, none⟩ = some (.slice none 0 0)
  g0 : W.frozen? ⟨w.heap.size, 0, none⟩ = false
  g1 : W.frozen? ⟨w.heap.size, 1, none⟩ = false
  own : OwnP (w.heap.size + 1) W gs cs v rs p
  ok : PoolR p
  nb : gs ≠ b ∧ v.ownBlock ≠ some b ∧ ∀ i, i < p.vols.length → blkOf (rth rs i).val ≠ b
  out : ∃ xs, W.ownsRow (b + 1) 75 5 vo k xs
  no : ∀ q, vo.ownBlock = some q → q ≠ gs ∧ v.ownBlock ≠ some q ∧ ∀ i, i < p.vols.length → blkOf (rth rs i).val ≠ q

theorem out_at {W : World} {B k : Nat} {v : Value} {xs : List Value} (h : W.ownsRow B 75 5 v k xs) (q : Nat) (hq : v.ownBlock = some q) : B ≤ q ∧ q < W.heap.size := by
  rcases h.2 with ⟨rfl, _⟩ | ⟨g, cap, cur, rfl, hb, hg, _⟩
  · simp [Value.ownBlock] at hq
  · obtain rfl : g = q := by simpa [Value.ownBlock] using hq
    exact ⟨hb, (Array.getElem?_eq_some_iff.1 hg).1⟩

theorem QSt.turn {w : World} {B P Q b gs cs : Nat} {v : Value} {rs : List Rw} {p : Po} {vo : Value} {k : Nat} {W W' : World} (h : QSt w B P b gs cs v rs p vo k W) (hr : RdTo B Q W W') : QSt w B Q b gs cs v rs p vo k W' := by
  have h1 := h.BL
  have h2 := h.lo
  have h3 := h.lt
  have hk : ∀ k, k < W.heap.size → k ≠ B → W'.heap[k]? = W.heap[k]? := fun k h1 h2 => hr.2.block k h1 (fun e => h2 (by injection e))
  have cc : ∀ t i, t < W.heap.size → t ≠ B → W'.cell? ⟨t, i, none⟩ = W.cell? ⟨t, i, none⟩ := fun t i a c => World.cell?_of_block (w := W) (a := ⟨t, i, none⟩) (hk t a c)
  have ff : ∀ t i, t < W.heap.size → t ≠ B → W'.frozen? ⟨t, i, none⟩ = W.frozen? ⟨t, i, none⟩ := fun t i a c => World.frozen?_of_block (w := W) (a := ⟨t, i, none⟩) (hk t a c)
  obtain ⟨xs, hxs⟩ := h.out
  exact ⟨h.rd.trans hr, h.BL, h.lo, Nat.lt_of_lt_of_le h.lt hr.2.size, (cc b 0 h3 (by omega)).trans h.c0, (cc b 1 h3 (by omega)).trans h.c1, (ff b 0 h3 (by omega)).trans h.f0, (ff b 1 h3 (by omega)).trans h.f1,
    (cc w.heap.size 0 (by omega) (by omega)).trans h.d0, (cc w.heap.size 1 (by omega) (by omega)).trans h.d1, (ff w.heap.size 0 (by omega) (by omega)).trans h.g0, (ff w.heap.size 1 (by omega) (by omega)).trans h.g1,
    h.own.turn hr.2 (by omega), h.ok, h.nb, ⟨xs, hxs.kept hr.2 (.inr (fun e => by have := (out_at hxs B e).1; omega))⟩, h.no⟩

theorem QSt.mono {w : World} {B P Q b gs cs : Nat} {v : Value} {rs : List Rw} {p : Po} {vo : Value} {k : Nat} {W : World} (h : QSt w B P b gs cs v rs p vo k W) (hPQ : P ≤ Q) : QSt w B Q b gs cs v rs p vo k W :=
  { h with rd := h.rd.mono hPQ }

theorem QSt.alloc {w : World} {B P b gs cs : Nat} {v : Value} {rs : List Rw} {p : Po} {vo : Value} {k : Nat} {W : World} (h : QSt w B P b gs cs v rs p vo k W) (x : Obj) : QSt w B P b gs cs v rs p vo k (W.alloc x) := h.turn ((RdTo.refl h.rd.1).alloc x)

theorem QSt.drew {w : World} {B P b gs cs : Nat} {v : Value} {rs : List Rw} {p : Po} {vo : Value} {k : Nat} {W : World} (h : QSt w B P b gs cs v rs p vo k W) : QSt w B P b gs cs v rs p vo k W.drew :=
  h.turn ⟨h.rd.1, (drawn_drew (w := W)).grown _⟩

/-- A store into a block that is none of the run's own. -/
theorem QSt.far {w : World} {B P b gs cs : Nat} {v : Value} {rs : List Rw} {p : Po} {vo : Value} {k : Nat} {W : World} (h : QSt w B P b gs cs v rs p vo k W) (x : Addr) (hx : b < x.block) (h1 : x.block ≠ gs) (h2 : v.ownBlock ≠ some x.block) (h3 : ∀ i, i < p.vols.length → blkOf (rth rs i).val ≠ x.block) (h4 : vo.ownBlock ≠ some x.block) (u : Value) : QSt w B P b gs cs v rs p vo k (W.setCell x u) := by
  have l1 := h.BL
  have l2 := h.lo
  have hk : ∀ k, k ≤ b → (W.setCell x u).heap[k]? = W.heap[k]? := fun k hk => Below.heap_setCell W x u k (by omega)
  have cc : ∀ t i, t ≤ b → (W.setCell x u).cell? ⟨t, i, none⟩ = W.cell? ⟨t, i, none⟩ := fun t i a => World.cell?_of_block (w := W) (a := ⟨t, i, none⟩) (hk t a)
  have ff : ∀ t i, (W.setCell x u).frozen? ⟨t, i, none⟩ = W.frozen? ⟨t, i, none⟩ := fun t i => World.frozen?_setCell _ _ _ _
  obtain ⟨xs, hxs⟩ := h.out
  exact ⟨h.rd.setFar h.BL x (by omega) u, h.BL, h.lo, by simpa [World.setCell] using h.lt, (cc b 0 (Nat.le_refl _)).trans h.c0, (cc b 1 (Nat.le_refl _)).trans h.c1, (ff b 0).trans h.f0, (ff b 1).trans h.f1,
    (cc w.heap.size 0 (by omega)).trans h.d0, (cc w.heap.size 1 (by omega)).trans h.d1, (ff w.heap.size 0).trans h.g0, (ff w.heap.size 1).trans h.g1,
    h.own.setFar x h1 h2 h3 u, h.ok, h.nb, ⟨xs, hxs.kept (grownBy_setCell W x u) (.inr h4)⟩, h.no⟩

/-- The box takes another pool, of later memory. -/
theorem QSt.take {w : World} {B P b gs cs : Nat} {v : Value} {rs : List Rw} {p : Po} {vo : Value} {k : Nat} {W : World} (h : QSt w B P b gs cs v rs p vo k W) {C gq yq : Nat} {v3 : Value} {rs3 : List Rw} {q : Po} (hO : OwnP C W gq yq v3 rs3 q) (hq : PoolR q) (hC : b < C) (hno : ∀ t, vo.ownBlock = some t → t < C) :
    QSt w B P b gq yq v3 rs3 q vo k ((W.setCell ⟨b, 0, none⟩ (.slice (some ⟨gq, 0, none⟩) 8 yq)).setCell ⟨b, 1, none⟩ v3) := by
  have l1 := h.BL
  have l2 := h.lo
  have hk : ∀ k, k ≠ b → ((W.setCell ⟨b, 0, none⟩ (.slice (some ⟨gq, 0, none⟩) 8 yq)).setCell ⟨b, 1, none⟩ v3).heap[k]? = W.heap[k]? := fun k hk => (Below.heap_setCell _ ⟨b, 1, none⟩ v3 k hk).trans (Below.heap_setCell W ⟨b, 0, none⟩ _ k hk)
  have ff : ∀ t i, ((W.setCell ⟨b, 0, none⟩ (.slice (some ⟨gq, 0, none⟩) 8 yq)).setCell ⟨b, 1, none⟩ v3).frozen? ⟨t, i, none⟩ = W.frozen? ⟨t, i, none⟩ := fun t i => (World.frozen?_setCell _ _ _ _).trans (World.frozen?_setCell _ _ _ _)
  have cc : ∀ t i, t ≠ b → ((W.setCell ⟨b, 0, none⟩ (.slice (some ⟨gq, 0, none⟩) 8 yq)).setCell ⟨b, 1, none⟩ v3).cell? ⟨t, i, none⟩ = W.cell? ⟨t, i, none⟩ := fun t i a => World.cell?_of_block (w := W) (a := ⟨t, i, none⟩) (hk t a)
  obtain ⟨xs, hxs⟩ := h.out
  have hv : ∀ t, v3.ownBlock = some t → C ≤ t := fun t e => (arr_at hO.vols.arr t e).1
  have hb : ∀ i, i < q.vols.length → C ≤ blkOf (rth rs3 i).val := fun i hi => (hO.vols.blk_lt i hi).1
  refine ⟨(h.rd.setFar h.BL _ (by show w.heap.size ≤ b; omega) _).setFar h.BL _ (by show w.heap.size ≤ b; omega) _, h.BL, h.lo, by simpa [World.setCell] using h.lt, ?_, ?_, (ff b 0).trans h.f0, (ff b 1).trans h.f1,
    (cc w.heap.size 0 (by omega)).trans h.d0, (cc w.heap.size 1 (by omega)).trans h.d1, (ff w.heap.size 0).trans h.g0, (ff w.heap.size 1).trans h.g1, ?_, hq, ⟨by have := hO.low; omega, fun e => by have := hv b e; omega, fun i hi e => by have := hb i hi; omega⟩,
    ⟨xs, (hxs.kept (grownBy_setCell W ⟨b, 0, none⟩ _) (.inr (fun e => by have := (out_at hxs b e).1; omega))).kept (grownBy_setCell _ ⟨b, 1, none⟩ _) (.inr (fun e => by have := (out_at hxs b e).1; omega))⟩,
    fun t e => ⟨by have := hno t e; have := hO.low; omega, fun e2 => by have := hno t e; have := hv t e2; omega, fun i hi e2 => by have := hno t e; have := hb i hi; omega⟩⟩
  · exact (cell_other _ _ _ _ (ne_off b 1 0 (by omega))).trans (cell_same _ _ _ _ h.c0)
  · exact cell_same _ _ _ _ ((cell_other _ _ _ _ (ne_off b 0 1 (by omega))).trans h.c1)
  · exact ((hO.setLow ⟨b, 0, none⟩ hC _).setLow ⟨b, 1, none⟩ hC _).mono (by omega)

/-- A change more. -/
theorem QSt.app {w : World} {B P b gs cs : Nat} {v : Value} {rs : List Rw} {p : Po} {vo : Value} {k : Nat} {W W' : World} (h : QSt w B P b gs cs v rs p vo k W) {g cap : Nat} {ys : List Value} (hown : W'.ownsRow (b + 1) 75 5 (.slice (some ⟨g, 0, none⟩) (k + 1) cap) (k + 1) ys) (hg : W.grownBy W' vo.ownBlock) (hat : vo.ownBlock = some g ∨ W.heap.size ≤ g) :
    QSt w B P b gs cs v rs p (.slice (some ⟨g, 0, none⟩) (k + 1) cap) (k + 1) W' := by
  have l1 := h.BL
  have l2 := h.lo
  have l3 := h.lt
  obtain ⟨xs, hxs⟩ := h.out
  have hk : ∀ k, k ≤ b → W'.heap[k]? = W.heap[k]? := fun k hk => hg.block k (by omega) (fun e => by have := (out_at hxs k e.symm).1; omega)
  have cc : ∀ t i, t ≤ b → W'.cell? ⟨t, i, none⟩ = W.cell? ⟨t, i, none⟩ := fun t i a => World.cell?_of_block (w := W) (a := ⟨t, i, none⟩) (hk t a)
  have ff : ∀ t i, t ≤ b → W'.frozen? ⟨t, i, none⟩ = W.frozen? ⟨t, i, none⟩ := fun t i a => World.frozen?_of_block (w := W) (a := ⟨t, i, none⟩) (hk t a)
  have hown2 : OwnP (w.heap.size + 1) W' gs cs v rs p := by
    cases hq : vo.ownBlock with
    | none =>
      rw [hq] at hg
      exact h.own.below ⟨hg.os, hg.tape, hg.output, hg.size, fun k hk => hg.block k hk (by simp)⟩ (Nat.le_refl _)
    | some t =>
      rw [hq] at hg
      obtain ⟨n1, n2, n3⟩ := h.no t hq
      exact ⟨h.own.low, Nat.lt_of_lt_of_le h.own.lt hg.size, h.own.cap, h.own.sl.kept hg h.own.lt (fun e => by injection e with e; omega), h.own.vols.keptFar hg n2 n3, h.own.farV, h.own.farR⟩
  refine ⟨⟨h.rd.1.kept (fun q hq => World.cell?_of_block (w := W) (hk q.block (by omega))) (World.frozen?_of_block (w := W) (a := ⟨B, 1, none⟩) (hk B (by omega))), ⟨hg.os.trans h.rd.2.os, hg.tape.trans h.rd.2.tape, hg.output.trans h.rd.2.output, Nat.le_trans h.rd.2.size hg.size, fun k hk2 hn => (hk k (by omega)).trans (h.rd.2.block k hk2 hn)⟩⟩,
    h.BL, h.lo, Nat.lt_of_lt_of_le h.lt hg.size, (cc b 0 (Nat.le_refl _)).trans h.c0, (cc b 1 (Nat.le_refl _)).trans h.c1, (ff b 0 (Nat.le_refl _)).trans h.f0, (ff b 1 (Nat.le_refl _)).trans h.f1,
    (cc w.heap.size 0 (by omega)).trans h.d0, (cc w.heap.size 1 (by omega)).trans h.d1, (ff w.heap.size 0 (by omega)).trans h.g0, (ff w.heap.size 1 (by omega)).trans h.g1, hown2, h.ok, h.nb, ⟨ys, hown⟩, fun q e => ?_⟩
  obtain rfl : g = q := by simpa [Value.ownBlock] using e
  rcases hat with e2 | e2
  · exact h.no g e2
  · exact ⟨by have := h.own.lt; omega, fun e3 => by have := (arr_at h.own.vols.arr g e3).2; omega, fun i hi e3 => by have := (h.own.vols.blk_lt i hi).2; omega⟩

end Go.Proofs.Ytgogokahpmljbaa
