/- A drawn pool, spoilt or not: the model's l71Pool. -/
import Derived.Test.YtgogokahpmljbaaPoolSeq
import Derived.Test.YtgogokahpmljbaaDrawStore
import Derived.Deep.RegionWith
import Derived.Deep.CutBlock
namespace Go.Proofs.Ytgogokahpmljbaa
open Go.RowKit
set_option linter.unusedVariables false
set_option maxRecDepth 100000

/-- A drawn pool: small texts and numbers. -/
structure PoolD (p : Po) : Prop where
  len : p.slots.length = 8
  slots : Bnd 0 p.slots
  vlen : p.vols.length ≤ 5
  vols : ∀ i, i < p.vols.length → (vth p.vols i).name.size ≤ 2 ∧ 1 ≤ (vth p.vols i).blocks.length ∧ (vth p.vols i).blocks.length ≤ 6 ∧ ∀ x ∈ (vth p.vols i).blocks, -1 ≤ x ∧ x ≤ 10

theorem PoolR.drawn {p : Po} (h : PoolR p) : PoolD p := by
  refine ⟨storeB_len h.store, fun i hi => ?_, by have := h.len4; omega, fun i hi => ?_⟩
  · have hi8 : i < 8 := by have := storeB_len h.store; omega
    have hok := storeB_ok h.store i hi8
    have h1 := okB_range hok
    simp only [okB, Bool.and_eq_true] at hok
    have := tokB_len hok.1.1
    have h2 := h.small i hi8
    exact ⟨by simp at this; omega, by omega, by omega⟩
  · obtain ⟨h1, h2, h3, h4⟩ := h.vol hi
    exact ⟨by rw [nameB_size _ h2]; omega, h3, h4, fun x hx => by have := h1 x hx; omega⟩

/-- A drawn pool in the box b; the result's box is empty. -/
structure PSt (w : World) (B P b gs cs : Nat) (v : Value) (rs : List Rw) (p : Po) (W : World) : Prop where
  rd : RdTo B P w W
  BL : B < w.heap.size
  lo : w.heap.size < b
  lt : b < W.heap.size
  c0 : W.cell? ⟨b, 0, none⟩ = some (.slice (some ⟨gs, 0, none⟩) 8 cs)
  c1 : W.cell? ⟨b, 1, none⟩ = some v
  f0 : W.frozen? ⟨b, 0, none⟩ = false
  f1 : W.frozen? ⟨b, 1, none⟩ = false
  d0 : W.cell? ⟨w.heap.size, 0, none⟩ = some (.slice none 0 0)
  d1 : W.cell? ⟨w.heap.size, 1, none⟩ = some (.slice none 0 0)
  g0 : W.frozen? ⟨w.heap.size, 0, none⟩ = false
  g1 : W.frozen? ⟨w.heap.size, 1, none⟩ = false
  own : OwnP (w.heap.size + 1) W gs cs v rs p
  nb : gs ≠ b ∧ v.ownBlock ≠ some b ∧ ∀ i, i < p.vols.length → blkOf (rth rs i).val ≠ b

theorem PSt.turn {w : World} {B P b gs cs : Nat} {v : Value} {rs : List Rw} {p : Po} {W : World} (h : PSt w B P b gs cs v rs p W) {Q : Nat} {W' : World} (hr : RdTo B Q W W') : PSt w B Q b gs cs v rs p W' := by
  have h1 := h.BL
  have h2 := h.lo
  have h3 := h.lt
  have hk : ∀ k, k < W.heap.size → k ≠ B → W'.heap[k]? = W.heap[k]? := fun k h1 h2 => hr.2.block k h1 (fun e => h2 (by injection e))
  have cc : ∀ t i, t < W.heap.size → t ≠ B → W'.cell? ⟨t, i, none⟩ = W.cell? ⟨t, i, none⟩ := fun t i a c => World.cell?_of_block (w := W) (a := ⟨t, i, none⟩) (hk t a c)
  have ff : ∀ t i, t < W.heap.size → t ≠ B → W'.frozen? ⟨t, i, none⟩ = W.frozen? ⟨t, i, none⟩ := fun t i a c => World.frozen?_of_block (w := W) (a := ⟨t, i, none⟩) (hk t a c)
  exact ⟨h.rd.trans hr, h.BL, h.lo, Nat.lt_of_lt_of_le h.lt hr.2.size, (cc b 0 h3 (by omega)).trans h.c0, (cc b 1 h3 (by omega)).trans h.c1, (ff b 0 h3 (by omega)).trans h.f0, (ff b 1 h3 (by omega)).trans h.f1,
    (cc w.heap.size 0 (by omega) (by omega)).trans h.d0, (cc w.heap.size 1 (by omega) (by omega)).trans h.d1, (ff w.heap.size 0 (by omega) (by omega)).trans h.g0, (ff w.heap.size 1 (by omega) (by omega)).trans h.g1,
    h.own.turn hr.2 (by omega), h.nb⟩

theorem PSt.mono {w : World} {B P b gs cs : Nat} {v : Value} {rs : List Rw} {p : Po} {W : World} (h : PSt w B P b gs cs v rs p W) {Q : Nat} (hPQ : P ≤ Q) : PSt w B Q b gs cs v rs p W := { h with rd := h.rd.mono hPQ }

theorem PSt.drew {w : World} {B P b gs cs : Nat} {v : Value} {rs : List Rw} {p : Po} {W : World} (h : PSt w B P b gs cs v rs p W) : PSt w B P b gs cs v rs p W.drew := h.turn ⟨h.rd.1, (drawn_drew (w := W)).grown _⟩

theorem PSt.alloc {w : World} {B P b gs cs : Nat} {v : Value} {rs : List Rw} {p : Po} {W : World} (h : PSt w B P b gs cs v rs p W) (x : Obj) : PSt w B P b gs cs v rs p (W.alloc x) := h.turn ((RdTo.refl h.rd.1).alloc x)

/-- What a store into a block of the pool's own leaves. -/
theorem PSt.put {w : World} {B P b gs cs : Nat} {v : Value} {rs : List Rw} {p : Po} {W : World} (h : PSt w B P b gs cs v rs p W) (x : Addr) (u : Value) (hx : w.heap.size < x.block) (hb : x.block ≠ b) {q : Po} (hv : q.vols.length = p.vols.length) (hO : OwnP (w.heap.size + 1) (W.setCell x u) gs cs v rs q) : PSt w B P b gs cs v rs q (W.setCell x u) := by
  have l1 := h.BL
  have l2 := h.lo
  have hk : ∀ k, k ≠ x.block → (W.setCell x u).heap[k]? = W.heap[k]? := fun k hk => Below.heap_setCell W x u k hk
  have cc : ∀ t i, t ≠ x.block → (W.setCell x u).cell? ⟨t, i, none⟩ = W.cell? ⟨t, i, none⟩ := fun t i a => World.cell?_of_block (w := W) (a := ⟨t, i, none⟩) (hk t a)
  have ff : ∀ t i, (W.setCell x u).frozen? ⟨t, i, none⟩ = W.frozen? ⟨t, i, none⟩ := fun t i => World.frozen?_setCell _ _ _ _
  exact ⟨h.rd.setFar h.BL x (by omega) u, h.BL, h.lo, by simpa [World.setCell] using h.lt, (cc b 0 (Ne.symm hb)).trans h.c0, (cc b 1 (Ne.symm hb)).trans h.c1, (ff b 0).trans h.f0, (ff b 1).trans h.f1,
    (cc w.heap.size 0 (by omega)).trans h.d0, (cc w.heap.size 1 (by omega)).trans h.d1, (ff w.heap.size 0).trans h.g0, (ff w.heap.size 1).trans h.g1, hO, ⟨h.nb.1, h.nb.2.1, by rw [hv]; exact h.nb.2.2⟩⟩

/-- A slot's count is spoilt. -/
theorem PSt.slot {w : World} {B P b gs cs : Nat} {v : Value} {rs : List Rw} {p : Po} {W : World} (h : PSt w B P b gs cs v rs p W) (hD : PoolD p) (j : Nat) (hj : j < 8) (u : Int) : PSt w B P b gs cs v rs ⟨p.slots.set j ⟨(nth p.slots j).text, u⟩, p.vols⟩ (W.setCell ⟨gs, j * 2 + 1, none⟩ (.int .i64 u)) := by
  have hs := h.own.sl.uses j (by rw [hD.len]; exact hj) u
  rw [Nat.zero_add] at hs
  exact h.put _ _ (by have := h.own.low; show w.heap.size < gs; omega) h.nb.1 rfl ⟨h.own.low, by simpa [World.setCell] using h.own.lt, h.own.cap, hs, h.own.vols.setFar _ h.own.farV h.own.farR _, h.own.farV, h.own.farR⟩

theorem PoolD.slot {p : Po} (hD : PoolD p) (j : Nat) (hj : j < 8) (u : Int) (h0 : 0 ≤ u) (h1 : u ≤ 100) : PoolD ⟨p.slots.set j ⟨(nth p.slots j).text, u⟩, p.vols⟩ :=
  ⟨by simpa using hD.len, hD.slots.set j _ (by rw [hD.len]; exact hj) (hD.slots j (by rw [hD.len]; exact hj)).1 h0 h1, hD.vlen, hD.vols⟩

/-- A block is spoilt. -/
theorem PSt.blk {w : World} {B P b gs cs : Nat} {v : Value} {rs : List Rw} {p : Po} {W : World} (h : PSt w B P b gs cs v rs p W) {k gb m cb : Nat} (hk : k < p.vols.length) (hb : 0 < (vth p.vols k).blocks.length) (hv : (rth rs k).val = .slice (some ⟨gb, 0, none⟩) m cb) (x : Int) : PSt w B P b gs cs v rs ⟨p.slots, setBlk p.vols k 0 x⟩ (W.setCell ⟨gb, 0, none⟩ (.int .i64 x)) := by
  have hgb := h.own.vols.blk_lt k hk
  rw [hv] at hgb
  have hgb1 : w.heap.size + 1 ≤ gb := hgb.1
  have hgs : gb ≠ gs := by have := h.own.farR k hk; rw [hv] at this; exact this
  have hnb : gb ≠ b := by have := h.nb.2.2 k hk; rw [hv] at this; exact this
  exact h.put _ _ (by show w.heap.size < gb; omega) hnb (setBlk_len _ _ _ _) ⟨h.own.low, by simpa [World.setCell] using h.own.lt, h.own.cap, h.own.sl.kept (grownBy_setCell W ⟨gb, 0, none⟩ _) h.own.lt (fun e => by have e2 : gs = gb := (by simpa using e); omega), own_setBlk h.own.vols hk hb hv x, h.own.farV, fun i hi => h.own.farR i (by rwa [setBlk_len] at hi)⟩

theorem PoolD.blk {p : Po} (hD : PoolD p) (k : Nat) (hk : k < p.vols.length) (x : Int) (h0 : -1 ≤ x) (h1 : x ≤ 10) : PoolD ⟨p.slots, setBlk p.vols k 0 x⟩ := by
  refine ⟨hD.len, hD.slots, by rw [setBlk_len]; exact hD.vlen, fun i hi => ?_⟩
  rw [setBlk_len] at hi
  rw [vth_setBlk _ _ _ _ _ hk]
  by_cases e : k = i
  · subst e
    rw [if_pos rfl]
    obtain ⟨q1, q2, q3, q4⟩ := hD.vols k hk
    refine ⟨q1, by simpa using q2, by simpa using q3, fun y hy => ?_⟩
    rcases List.mem_or_eq_of_mem_set hy with hy | hy
    · exact q4 y hy
    · omega
  · rw [if_neg e]; exact hD.vols i hi

/-- A disk more. -/
theorem PSt.add {w : World} {B P b gs cs : Nat} {v : Value} {rs : List Rw} {p : Po} {W : World} (h : PSt w B P b gs cs v rs p W) {v2 : Value} {rs2 : List Rw} {vs2 : List Vo} {W' : World} (hV : OwnVR (w.heap.size + 1) W' v2 rs2 vs2) (hg : W.grownBy W' v.ownBlock) (hat : v2.ownBlock = v.ownBlock ∨ ∃ g, v2.ownBlock = some g ∧ W.heap.size ≤ g)
    (hr : ∀ i, i < vs2.length → blkOf (rth rs2 i).val ≠ gs ∧ blkOf (rth rs2 i).val ≠ b) : PSt w B P b gs cs v2 rs2 ⟨p.slots, vs2⟩ (W'.setCell ⟨b, 1, none⟩ v2) := by
  have l1 := h.BL
  have l2 := h.lo
  have l3 := h.lt
  have hva : ∀ q, v.ownBlock = some q → w.heap.size + 1 ≤ q := fun q e => (arr_at h.own.vols.arr q e).1
  have hk : ∀ k, k < W.heap.size → v.ownBlock ≠ some k → W'.heap[k]? = W.heap[k]? := fun k h1 h2 => hg.block k h1 (fun e => h2 e.symm)
  have kb : v.ownBlock ≠ some b := h.nb.2.1
  have kw : ∀ k, k ≤ w.heap.size → v.ownBlock ≠ some k := fun k hk e => by have := hva k e; omega
  have cc : ∀ t i, t < W.heap.size → v.ownBlock ≠ some t → W'.cell? ⟨t, i, none⟩ = W.cell? ⟨t, i, none⟩ := fun t i a e => World.cell?_of_block (w := W) (a := ⟨t, i, none⟩) (hk t a e)
  have ff : ∀ t i, t < W.heap.size → v.ownBlock ≠ some t → W'.frozen? ⟨t, i, none⟩ = W.frozen? ⟨t, i, none⟩ := fun t i a e => World.frozen?_of_block (w := W) (a := ⟨t, i, none⟩) (hk t a e)
  have sz : W.heap.size ≤ W'.heap.size := hg.size
  have hv2b : v2.ownBlock ≠ some b := fun e => by
    rcases hat with e2 | ⟨g, e2, hg2⟩
    · exact kb (e2.symm.trans e)
    · rw [e2] at e; injection e with e; omega
  have hv2g : v2.ownBlock ≠ some gs := fun e => by
    rcases hat with e2 | ⟨g, e2, hg2⟩
    · exact h.own.farV (e2.symm.trans e)
    · rw [e2] at e; injection e with e; have := h.own.lt; omega
  have hRd : RdTo B P w W' := ⟨h.rd.1.kept (fun q hq => World.cell?_of_block (w := W) (hk q.block (by omega) (kw _ (by omega)))) (World.frozen?_of_block (w := W) (a := ⟨B, 1, none⟩) (hk B (by omega) (kw _ (by omega)))), ⟨hg.os.trans h.rd.2.os, hg.tape.trans h.rd.2.tape, hg.output.trans h.rd.2.output, Nat.le_trans h.rd.2.size hg.size, fun k hk2 hn => (hk k (by have := h.rd.2.size; omega) (kw k (by omega))).trans (h.rd.2.block k hk2 hn)⟩⟩
  have hO : OwnP (w.heap.size + 1) W' gs cs v2 rs2 ⟨p.slots, vs2⟩ := ⟨h.own.low, Nat.lt_of_lt_of_le h.own.lt sz, h.own.cap, h.own.sl.kept hg h.own.lt (fun e => h.own.farV e.symm), hV, hv2g, fun i hi => (hr i hi).1⟩
  exact ⟨hRd.setFar h.BL ⟨b, 1, none⟩ (by show w.heap.size ≤ b; omega) v2, h.BL, h.lo, by simp only [World.setCell, Array.size_modify]; omega,
    (cell_other _ _ _ _ (ne_off b 1 0 (by omega))).trans ((cc b 0 l3 kb).trans h.c0), cell_same _ _ _ _ ((cc b 1 l3 kb).trans h.c1), (World.frozen?_setCell _ _ _ _).trans ((ff b 0 l3 kb).trans h.f0), (World.frozen?_setCell _ _ _ _).trans ((ff b 1 l3 kb).trans h.f1),
    (cell_other _ _ _ _ (fun e => by injection e with e1; omega)).trans ((cc w.heap.size 0 (by omega) (kw _ (Nat.le_refl _))).trans h.d0), (cell_other _ _ _ _ (fun e => by injection e with e1; omega)).trans ((cc w.heap.size 1 (by omega) (kw _ (Nat.le_refl _))).trans h.d1), (World.frozen?_setCell _ _ _ _).trans ((ff w.heap.size 0 (by omega) (kw _ (Nat.le_refl _))).trans h.g0), (World.frozen?_setCell _ _ _ _).trans ((ff w.heap.size 1 (by omega) (kw _ (Nat.le_refl _))).trans h.g1),
    hO.setFar ⟨b, 1, none⟩ (fun e => h.nb.1 e.symm) hv2b (fun i hi => (hr i hi).2) v2, h.nb.1, hv2b, fun i hi => (hr i hi).2⟩

theorem PSt.new {w w3 : World} {B P gs cs : Nat} {a : Option Addr} {n c : Nat} {rs : List Rw} {p : Po} (hR : RdTo B P w w3) (hBL : B < w.heap.size) (hlo : w.heap.size < w3.heap.size) (hO : OwnP (w.heap.size + 1) w3 gs cs (.slice a n c) rs p) (hd : w3.heap[w.heap.size]? = some (.cells #[.slice none 0 0, .slice none 0 0] 50)) :
    PSt w B P w3.heap.size gs cs (.slice a n c) rs p (w3.alloc (.cells #[.slice (some ⟨gs, 0, none⟩) 8 cs, .slice a n c] 50)) := by
  have n0 := new_cells w3 #[.slice (some ⟨gs, 0, none⟩) 8 cs, .slice a n c] 50
  have o0 := fun i => old_cells w3 (.cells #[.slice (some ⟨gs, 0, none⟩) 8 cs, .slice a n c] 50) w.heap.size i hlo
  obtain ⟨d0, d1, g0, g1⟩ := box_cells hd
  have hb : Below w3.heap.size w3 (w3.alloc (.cells #[.slice (some ⟨gs, 0, none⟩) 8 cs, .slice a n c] 50)) := (Below.refl _ _).alloc (Nat.le_refl _) _
  exact ⟨hR.alloc _, hBL, hlo, by simp, n0.1 0, n0.1 1, n0.2 0, n0.2 1, (o0 0).1.trans d0, (o0 1).1.trans d1, (o0 0).2.trans g0, (o0 1).2.trans g1, hO.below hb (Nat.le_refl _), by have := hO.lt; omega, fun e => by have := (arr_at hO.vols.arr _ e).2; omega, fun i hi e => by have := (hO.vols.blk_lt i hi).2; omega⟩

set_option maxHeartbeats 12800000 in
theorem l71Pool_any (B P : Nat) (w : World) (h : Rd B P w) (hP : P ≤ 500000000) :
    Calls Try.prog 23 #[.pointer (some ⟨B, 0, none⟩)] w fun e w' => ∃ gs cs a n c rs p, e = .returned (.agg #[.slice (some ⟨gs, 0, none⟩) 8 cs, .slice a n c]) ∧ PoolD p ∧ OwnP (w.heap.size + 1) w' gs cs (.slice a n c) rs p ∧ RdTo B (P + 3000) w w' := by
  have hBL := h.lt
  have HR1 : Hid (RdTo B P w (w.alloc (.cells #[.slice none 0 0, .slice none 0 0] 50))) := Lib.hid ((RdTo.refl h).alloc _)
  have HN1 := Lib.hid (heap_alloc_new w (.cells #[.slice none 0 0, .slice none 0 0] 50))
  go_enter Try.func23, Try.ntmps23
  go_wp2_with fail
  refine (pick_any B P 22 _ HR1.out.1 (by omega) (by omega)).mono ?_
  rintro e w2 ⟨u, rfl, u0, u1, hR2⟩
  obtain ⟨u, rfl⟩ := Int.eq_ofNat_of_zero_le u0
  have HR2 := Lib.hid hR2
  have HOPS : Hid (Calls Try.prog 30 #[.pointer (some ⟨B, 0, none⟩), .int .i64 (3 + (u : Int))] w2 fun e w' => ∃ vo gs cs v rs p, e = .returned (.tuple #[vo, .agg #[.slice (some ⟨gs, 0, none⟩) 8 cs, v]]) ∧ PoolR p ∧ OwnP (w2.heap.size + 1) w' gs cs v rs p ∧ RdTo B (P + 1 + 124 * (u + 3)) w2 w') := Lib.hid (by
    have h1 := l71Ops_any B (P + 1) (u + 3) w2 hR2.1 (by omega) (by omega)
    rw [show ((u + 3 : Nat) : Int) = 3 + (u : Int) from by omega] at h1
    exact h1)
  clear hR2
  go_wp2_with fail
  refine HOPS.out.mono ?_
  rintro e w3 ⟨vo, gs, cs, v, rs, p, rfl, hp, hO, hR3⟩
  obtain ⟨a, n, c, rfl⟩ := arr_slice hO.vols.arr
  have hs1 : (w.alloc (.cells #[.slice none 0 0, .slice none 0 0] 50)).heap.size = w.heap.size + 1 := by simp
  have hs2 := HR2.out.2.size
  have hs3 := hR3.2.size
  have hlo : w.heap.size < w3.heap.size := by omega
  have hd : w3.heap[w.heap.size]? = some (.cells #[.slice none 0 0, .slice none 0 0] 50) := (hR3.2.block w.heap.size (by omega) (fun e => by injection e with e; omega)).trans ((HR2.out.2.block w.heap.size (by omega) (fun e => by injection e with e; omega)).trans HN1.out)
  have HS4 := Lib.hid (PSt.new ((HR1.out.trans HR2.out).trans hR3) hBL hlo (hO.mono (by omega)) hd)
  have HD := Lib.hid hp.drawn
  have HL4 := Lib.hid hp.len4
  have hvl := own_len hO.vols
  clear hp hO hR3 hd HOPS HR1 HN1 HR2 hs1 hs2 hs3
  go_wp2_with fail
  refine (pick_any B _ 30 _ HS4.out.rd.1 (by omega) (by omega)).mono ?_
  rintro e w5 ⟨x, rfl, x0, x1, hR5⟩
  have hS5 := HS4.out.turn hR5
  obtain ⟨b, hb⟩ : ∃ b, w3.heap.size = b := ⟨_, rfl⟩
  rw [hb] at hS5 hlo ⊢
  have HS5 := Lib.hid (hS5.mono (Q := P + 2990) (by omega))
  clear hS5 HS4 hR5 hb
  go_upto_block 0 with fail
  go_cut [] from 16 (fun W => ∃ v rs p, PoolD p ∧ PSt w B (P + 3000) b gs cs v rs p W)
  case first =>
    by_cases hx0 : x = 0
    · subst hx0
      have c0 := HS5.out.c0
      have HPA := Lib.hid (pick_any B _ 8 w5.drew HS5.out.drew.rd.1 (by omega) (by omega))
      go_wp2_with fail
      go_region_with (go_at_call 17; first
        | (have hx := HS6.out; refine (pick_any B _ 4 w6 hx.rd.1 (by omega) (by omega)).mono ?_; rintro e w7 ⟨y, rfl, y0, y1, hR7⟩; have HS7 := Lib.hid (HS6.out.turn hR7); clear hR7 hx; have c0 := HS7.out.c0; have hcu := (HS7.out.own.sl.1.at0 j (by rw [HD.out.len]; omega)).2; have hfu := HS7.out.own.sl.2 (j * 2 + 1))
        | (refine HPA.out.mono ?_; rintro e w6 ⟨j, rfl, j0, j1, hR6⟩; obtain ⟨j, rfl⟩ := Int.eq_ofNat_of_zero_le j0; have HS6 := Lib.hid (HS5.out.drew.turn hR6); clear hR6; have c0 := HS6.out.c0; have q1 : IntKind.i64.wrap (j : Int) = (j : Int) := IntWalk.i64_in _ (by omega); have q5 : (j : Int) < 8 := (by omega); have q6 : ¬ (j : Int) < 0 := (by omega); have q7 : ¬ (8 : Int) ≤ (j : Int) := (by omega)))
      all_goals (
        go_wp2_with fail
        go_meet
        case rel => exact ⟨_, _, _, HD.out.slot j (by omega) y (by omega) (by omega), (HS7.out.slot HD.out j (by omega) y).mono (by omega)⟩)
    by_cases hx1 : x = 1
    · subst hx1
      have c1 := HS5.out.c1
      by_cases hn0 : 0 < n
      · have hn1 : (0 : Int) < (n : Int) := by omega
        have hn5 : n ≤ 5 := by have := HD.out.vlen; omega
        go_wp2_with fail
        refine (pick_any B _ n _ HS5.out.rd.1 (by omega) (by omega)).mono ?_
        rintro e w6 ⟨j, rfl, j0, j1, hR6⟩
        obtain ⟨j, rfl⟩ := Int.eq_ofNat_of_zero_le j0
        have HS6 := Lib.hid (HS5.out.turn hR6)
        clear hR6 c1
        have hj : j < p.vols.length := by omega
        have HJ := Lib.hid hj
        obtain ⟨gv, cap, hav, _, _, _, hrows, _⟩ := HS6.out.own.vols.rows (by omega)
        injection hav with ea en ec
        clear en ec
        subst ea
        obtain ⟨_, gb, cb, hrv, _⟩ := HS6.out.own.vols.row j hj
        have HRV := Lib.hid hrv
        have HROW : Hid (∀ (Q : Nat) (W : World), PSt w B Q b gs cs (.slice (some ⟨gv, 0, none⟩) n c) rs p W → W.cell? ⟨b, 1, none⟩ = some (.slice (some ⟨gv, 0, none⟩) n c) ∧ W.cell? ⟨gv, j * 2 + 1, none⟩ = some (.slice (some ⟨gb, 0, none⟩) (vth p.vols j).blocks.length cb) ∧ (∃ z, W.cell? ⟨gb, 0, none⟩ = some (.int .i64 z)) ∧ W.frozen? ⟨gb, 0, none⟩ = false) := Lib.hid (fun Q W hS => by
          obtain ⟨gv2, cap2, hav2, _, _, _, hrows2, _⟩ := hS.own.vols.rows (by omega)
          injection hav2 with ea2 _ _
          injection ea2 with ea2
          injection ea2 with ea2
          subst ea2
          have h0 := (hrows2 j (by rw [hS.own.vols.len]; omega)).2
          rw [Nat.zero_add, HRV.out] at h0
          obtain ⟨_, gb2, cb2, hrv2, _, _, _, hl2, hiw, _⟩ := hS.own.vols.row j hj
          rw [HRV.out] at hrv2
          injection hrv2 with e1 _ _
          injection e1 with e1
          injection e1 with e1
          subst e1
          have h1 := hiw.1 0 hl2
          exact ⟨hS.c1, h0, ⟨_, h1⟩, hiw.2 0⟩)
        have hbl := (HD.out.vols j hj).2.1
        obtain ⟨L, hL⟩ : ∃ L, (vth p.vols j).blocks.length = L := ⟨_, rfl⟩
        have HBL := Lib.hid hbl
        rw [hL] at HROW hbl
        obtain ⟨c1, h0, ⟨z, hz⟩, hfz⟩ := HROW.out _ _ HS6.out
        have HPA := Lib.hid (pick_any B _ 10 w6.drew HS6.out.drew.rd.1 (by omega) (by omega))
        clear hrows hrv hL
        have q1 : IntKind.i64.wrap (j : Int) = (j : Int) := IntWalk.i64_in _ (by omega)
        have q5 : (j : Int) < n := by omega
        have q6 : ¬ (j : Int) < 0 := by omega
        have q7 : ¬ (n : Int) ≤ (j : Int) := by omega
        have q8 : (0 : Int) < (L : Int) := by omega
        have q9 : ¬ (L : Int) ≤ 0 := by omega
        clear hbl hj hvl
        go_wp2_with fail
        go_region_with (go_at_call 17; refine HPA.out.mono ?_; rintro e w7 ⟨y, rfl, y0, y1, hR7⟩; have HS7 := Lib.hid (HS6.out.drew.turn hR7); clear hR7; obtain ⟨c1, h0, ⟨z, hz⟩, hfz⟩ := HROW.out _ _ HS7.out)
        all_goals (
          go_wp2_with fail
          go_meet
          case rel => exact ⟨_, _, _, HD.out.blk j HJ.out y (by omega) (by omega), (HS7.out.blk HJ.out (by have := HBL.out; omega) HRV.out y).mono (by omega)⟩)
      · obtain rfl : n = 0 := by omega
        go_wp2_with fail
        go_meet
        case rel => exact ⟨_, _, _, HD.out, HS5.out.mono (by omega)⟩
    by_cases hx2 : x = 2
    · subst hx2
      have c1 := HS5.out.c1
      have f1 := HS5.out.f1
      have lb := HS5.out.lt
      have HS6 := Lib.hid (HS5.out.alloc (.cells #[.int .i64 0] 3))
      have n6 := new_cells w5 #[.int .i64 0] 3
      have hva : (Value.slice a n c).ownBlock ≠ some w5.heap.size := fun e => by have := (arr_at HS5.out.own.vols.arr _ e).2; omega
      have HROW : Hid (RowOk (w.heap.size + 1) (w5.alloc (.cells #[.int .i64 0] 3)) (.slice a n c) ⟨⟨#[65]⟩, .slice (some ⟨w5.heap.size, 0, none⟩) 1 1⟩ ⟨⟨#[65]⟩, [0]⟩) := Lib.hid ⟨rfl, w5.heap.size, 1, rfl, by omega, by simp, Nat.le_refl _, by decide, ⟨fun i hi => by
        have h0 : i = 0 := by simp at hi; omega
        subst h0
        exact n6.1 0, n6.2⟩, hva⟩
      have HDD : Hid (∀ i, i < p.vols.length → blkOf (rth rs i).val ≠ blkOf (.slice (some ⟨w5.heap.size, 0, none⟩) 1 1)) := Lib.hid (fun i hi e => by
        have h0 := (HS5.out.own.vols.blk_lt i hi).2
        have e2 : blkOf (rth rs i).val = w5.heap.size := e
        omega)
      have HLEN := Lib.hid HS5.out.own.vols.len
      clear n6 hva hvl
      go_wp2_with (at_builtin; refine wpList_append_vol (w5.alloc (.cells #[.int .i64 0] 3)) rfl _ _ rfl (w.heap.size + 1) (.slice a n c) rs p.vols HS6.out.own.vols rfl ⟨⟨#[65]⟩, _⟩ ⟨⟨#[65]⟩, [0]⟩ HROW.out HDD.out (by first | rfl | (rw [World.size_alloc]; rfl) | simp) (by have := HL4.out; omega) (by simp; omega) ?_; intro v2 w7 hV7 hg7 hat7; obtain ⟨ta, tn, tc, rfl⟩ := arr_slice hV7.arr; have hkb := hg7.block b (by simp; omega) (fun e => HS6.out.nb.2.1 e.symm); have c1 := (World.cell?_of_block (w := w5.alloc (.cells #[.int .i64 0] 3)) (a := ⟨b, 1, none⟩) hkb).trans HS6.out.c1; have f1 := (World.frozen?_of_block (w := w5.alloc (.cells #[.int .i64 0] 3)) (a := ⟨b, 1, none⟩) hkb).trans HS6.out.f1; clear hkb)
      have HS8 := Lib.hid (HS6.out.add hV7 hg7 hat7 (fun i hi => by
        simp only [List.length_append, List.length_cons, List.length_nil, Nat.zero_add] at hi
        by_cases e : i < p.vols.length
        · rw [rth_append_left _ _ _ (by rw [HLEN.out]; exact e)]
          exact ⟨HS6.out.own.farR i e, HS6.out.nb.2.2 i e⟩
        · have e2 : i = rs.length := by rw [HLEN.out]; omega
          rw [e2, rth_append_at]
          have h1 := HS5.out.own.lt
          exact ⟨fun h => by have h2 : w5.heap.size = gs := h; omega, fun h => by have h2 : w5.heap.size = b := h; omega⟩))
      have HDA : Hid (PoolD ⟨p.slots, p.vols ++ [⟨⟨#[65]⟩, [0]⟩]⟩) := Lib.hid ⟨HD.out.len, HD.out.slots, by have := HL4.out; simp; omega, fun i hi => by
        simp only [List.length_append, List.length_cons, List.length_nil, Nat.zero_add] at hi
        by_cases e : i < p.vols.length
        · show (vth (p.vols ++ [⟨⟨#[65]⟩, [0]⟩]) i).name.size ≤ 2 ∧ _
          rw [vth_append_left _ _ _ e]
          exact HD.out.vols i e
        · obtain rfl : i = p.vols.length := by omega
          show (vth (p.vols ++ [⟨⟨#[65]⟩, [0]⟩]) p.vols.length).name.size ≤ 2 ∧ _
          rw [vth_append_at]
          exact ⟨by decide, by decide, by decide, fun y hy => by simp at hy; omega⟩⟩
      clear hV7 hg7 hat7
      go_wp2_with fail
      go_meet
      case rel => exact ⟨_, _, _, HDA.out, HS8.out.mono (by omega)⟩
    have x3 : (x == 0) = false := by simpa using hx0
    have x4 : (x == 1) = false := by simpa using hx1
    have x5 : (x == 2) = false := by simpa using hx2
    go_wp2_with fail
    go_meet
    case rel => exact ⟨_, _, _, HD.out, HS5.out.mono (by omega)⟩
  clear HS5 HD
  obtain ⟨v2, rs2, p2, hD2, hS6⟩ := hcut
  obtain ⟨a2, n2, c2, rfl⟩ := arr_slice hS6.own.vols.arr
  have HS6 := Lib.hid hS6
  have c0 := hS6.c0
  have c1 := hS6.c1
  have d0 := hS6.d0
  have d1 := hS6.d1
  have g0 := hS6.g0
  have g1 := hS6.g1
  have HD2 := Lib.hid hD2
  clear hS6 hD2
  go_wp2_with fail
  refine bodyPost_ret (v := .agg #[.slice (some ⟨gs, 0, none⟩) 8 cs, .slice a2 n2 c2]) (by simp [results, Try.f23, go_sem, d0, d1]) rfl ⟨gs, cs, a2, n2, c2, rs2, p2, rfl, HD2.out, ?_, ?_⟩
  · exact (HS6.out.own.setLow ⟨w.heap.size, 0, none⟩ (by show w.heap.size < w.heap.size + 1; omega) _).setLow ⟨w.heap.size, 1, none⟩ (by show w.heap.size < w.heap.size + 1; omega) _
  · exact (HS6.out.rd.setFar HS6.out.BL ⟨w.heap.size, 0, none⟩ (Nat.le_refl _) _).setFar HS6.out.BL ⟨w.heap.size, 1, none⟩ (Nat.le_refl _) _

end Go.Proofs.Ytgogokahpmljbaa
