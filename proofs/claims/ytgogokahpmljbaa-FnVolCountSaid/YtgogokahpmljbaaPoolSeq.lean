/- A drawn run of changes: the model's l71Ops. -/
import Derived.Test.YtgogokahpmljbaaPoolRun
namespace Go.Proofs.Ytgogokahpmljbaa
open Go.RowKit
set_option linter.unusedVariables false
set_option maxRecDepth 100000

/-- A change lies in the block ob. -/
def OpAt (W : World) (ob : Nat) (o : Ov) : Prop := ob < W.heap.size ∧ ∀ i, i < 5 → W.cell? ⟨ob, i, none⟩ = some (ovc o i)

theorem OpAt.keep {W W' : World} {ob : Nat} {o : Ov} (h : OpAt W ob o) (hk : W'.heap[ob]? = W.heap[ob]?) (hs : W.heap.size ≤ W'.heap.size) : OpAt W' ob o :=
  ⟨Nat.lt_of_lt_of_le h.1 hs, fun i hi => (World.cell?_of_block (w := W) (a := ⟨ob, i, none⟩) hk).trans (h.2 i hi)⟩

theorem OpAt.cells {W : World} {ob : Nat} {kd : Int} {nm dst : ByteArray} {num : Int} {tx : ByteArray} (h : OpAt W ob ⟨kd, nm, dst, num, tx⟩) : W.cell? ⟨ob, 0, none⟩ = some (.int .i64 kd) ∧ W.cell? ⟨ob, 1, none⟩ = some (.string nm) ∧ W.cell? ⟨ob, 2, none⟩ = some (.string dst) ∧ W.cell? ⟨ob, 3, none⟩ = some (.int .i64 num) ∧ W.cell? ⟨ob, 4, none⟩ = some (.string tx) :=
  ⟨h.2 0 (by omega), h.2 1 (by omega), h.2 2 (by omega), h.2 3 (by omega), h.2 4 (by omega)⟩

theorem OpAt.new (W : World) (kd : Int) (nm dst : ByteArray) (num : Int) (tx : ByteArray) : OpAt (W.alloc (.cells #[.int .i64 kd, .string nm, .string dst, .int .i64 num, .string tx] 75)) W.heap.size ⟨kd, nm, dst, num, tx⟩ :=
  ⟨by simp, fun i hi => ((new_cells W #[.int .i64 kd, .string nm, .string dst, .int .i64 num, .string tx] 75).1 i).trans (by
    obtain rfl | rfl | rfl | rfl | rfl : i = 0 ∨ i = 1 ∨ i = 2 ∨ i = 3 ∨ i = 4 := by omega
    all_goals rfl)⟩

theorem box_cells {W : World} {b : Nat} (h : W.heap[b]? = some (.cells #[.slice none 0 0, .slice none 0 0] 50)) : W.cell? ⟨b, 0, none⟩ = some (.slice none 0 0) ∧ W.cell? ⟨b, 1, none⟩ = some (.slice none 0 0) ∧ W.frozen? ⟨b, 0, none⟩ = false ∧ W.frozen? ⟨b, 1, none⟩ = false :=
  ⟨by rw [cell_of_row _ _ _ _ _ _ h]; rfl, by rw [cell_of_row _ _ _ _ _ _ h]; rfl, by unfold World.frozen?; rw [h]; simp, by unfold World.frozen?; rw [h]; simp⟩

theorem rdTo_drew {B P : Nat} {w W : World} (h : RdTo B P w W) : RdTo B P w W.drew := ⟨h.1, grownBy_trans h.2 ((drawn_drew (w := W)).grown _)⟩

/-- A pool is laid into a box of later memory. -/
theorem seq_box {w W : World} {B P b gs cs : Nat} {v vo : Value} {rs : List Rw} {p : Po} {k : Nat} {xb gq yq C ob : Nat} {v3 : Value} {rs3 : List Rw} {q : Po} {o : Ov} (hQ : QSt w B P b gs cs v rs p vo k W) (hO : OwnP C W gq yq v3 rs3 q) (hq : PoolR q) (hA : OpAt W ob o) (hX : W.heap[xb]? = some (.cells #[.slice none 0 0, .slice none 0 0] 50)) (hob : ob < xb) (hb : b < xb) (hgs : gs < xb)
    (hv : ∀ t, v.ownBlock = some t → t < xb) (hr : ∀ i, i < p.vols.length → blkOf (rth rs i).val < xb) (hvo : ∀ t, vo.ownBlock = some t → t < xb) :
    ((W.setCell ⟨xb, 0, none⟩ (.slice (some ⟨gq, 0, none⟩) 8 yq)).setCell ⟨xb, 1, none⟩ v3).cell? ⟨xb, 0, none⟩ = some (.slice (some ⟨gq, 0, none⟩) 8 yq) ∧ ((W.setCell ⟨xb, 0, none⟩ (.slice (some ⟨gq, 0, none⟩) 8 yq)).setCell ⟨xb, 1, none⟩ v3).cell? ⟨xb, 1, none⟩ = some v3 ∧
      OwnP C ((W.setCell ⟨xb, 0, none⟩ (.slice (some ⟨gq, 0, none⟩) 8 yq)).setCell ⟨xb, 1, none⟩ v3) gq yq v3 rs3 q ∧ OpAt ((W.setCell ⟨xb, 0, none⟩ (.slice (some ⟨gq, 0, none⟩) 8 yq)).setCell ⟨xb, 1, none⟩ v3) ob o ∧ QSt w B P b gs cs v rs p vo k ((W.setCell ⟨xb, 0, none⟩ (.slice (some ⟨gq, 0, none⟩) 8 yq)).setCell ⟨xb, 1, none⟩ v3) := by
  obtain ⟨x0, x1, _, _⟩ := box_cells hX
  obtain ⟨n1, n2, n3⟩ := hO.notBox hq hX
  have m2 : v.ownBlock ≠ some xb := fun e => by have := hv xb e; omega
  have m3 : ∀ i, i < p.vols.length → blkOf (rth rs i).val ≠ xb := fun i hi => by have := hr i hi; omega
  have m4 : vo.ownBlock ≠ some xb := fun e => by have := hvo xb e; omega
  refine ⟨(cell_other _ _ _ _ (ne_off xb 1 0 (by omega))).trans (cell_same _ _ _ _ x0), cell_same _ _ _ _ ((cell_other _ _ _ _ (ne_off xb 0 1 (by omega))).trans x1), (hO.setFar ⟨xb, 0, none⟩ n1 n2 n3 _).setFar ⟨xb, 1, none⟩ n1 n2 n3 _,
    hA.keep ((Below.heap_setCell _ ⟨xb, 1, none⟩ v3 ob (fun e => by have e2 : ob = xb := e; omega)).trans (Below.heap_setCell W ⟨xb, 0, none⟩ _ ob (fun e => by have e2 : ob = xb := e; omega))) (by simp [World.setCell]), (hQ.far ⟨xb, 0, none⟩ hb (by show xb ≠ gs; omega) m2 m3 m4 _).far ⟨xb, 1, none⟩ hb (by show xb ≠ gs; omega) m2 m3 m4 _⟩

/-- The run begins. -/
theorem QSt.new {w w2 : World} {B P g c : Nat} {v : Value} (hR : RdTo B P w w2) (hBL : B < w.heap.size) (hlo : w.heap.size < w2.heap.size) (hO : OwnP (w.heap.size + 1) w2 g c v [] freshP) (hd : w2.heap[w.heap.size]? = some (.cells #[.slice none 0 0, .slice none 0 0] 50)) :
    QSt w B P w2.heap.size g c v [] freshP (.slice (some ⟨w2.heap.size + 1, 0, none⟩) 0 0) 0 ((w2.alloc (.cells #[.slice (some ⟨g, 0, none⟩) 8 c, v] 50)).alloc (.cells #[] 75)) := by
  have n0 := new_cells w2 #[.slice (some ⟨g, 0, none⟩) 8 c, v] 50
  have o0 := fun i => old_cells (w2.alloc (.cells #[.slice (some ⟨g, 0, none⟩) 8 c, v] 50)) (.cells #[] 75) w2.heap.size i (by simp)
  have o1 := fun i => old_cells (w2.alloc (.cells #[.slice (some ⟨g, 0, none⟩) 8 c, v] 50)) (.cells #[] 75) w.heap.size i (by simp; omega)
  have o2 := fun i => old_cells w2 (.cells #[.slice (some ⟨g, 0, none⟩) 8 c, v] 50) w.heap.size i hlo
  obtain ⟨d0, d1, g0, g1⟩ := box_cells hd
  have hb : Below w2.heap.size w2 ((w2.alloc (.cells #[.slice (some ⟨g, 0, none⟩) 8 c, v] 50)).alloc (.cells #[] 75)) := ((Below.refl _ _).alloc (Nat.le_refl _) _).alloc (by simp) _
  have hown := World.ownsRow_made (base := w2.heap.size + 1) (e := 75) (w2.alloc (.cells #[.slice (some ⟨g, 0, none⟩) 8 c, v] 50)) #[] 0 (by simp) (by unfold maxLen; omega) rfl (size := 5)
  simp only [World.size_alloc] at hown
  refine ⟨(hR.alloc _).alloc _, hBL, hlo, by simp; omega, (o0 0).1.trans (n0.1 0), (o0 1).1.trans (n0.1 1), (o0 0).2.trans (n0.2 0), (o0 1).2.trans (n0.2 1), (o1 0).1.trans ((o2 0).1.trans d0), (o1 1).1.trans ((o2 1).1.trans d1), (o1 0).2.trans ((o2 0).2.trans g0), (o1 1).2.trans ((o2 1).2.trans g1),
    hO.below hb (Nat.le_refl _), freshP_ok, ⟨by have := hO.lt; omega, fun e => by have := (arr_at hO.vols.arr _ e).2; omega, fun i hi => by simp [freshP] at hi⟩, ⟨[], hown⟩, fun q e => ?_⟩
  have e2 : w2.heap.size + 1 = q := by simpa [Value.ownBlock] using e
  exact ⟨by have := hO.lt; omega, fun e => by have := (arr_at hO.vols.arr _ e).2; omega, fun i hi => by simp [freshP] at hi⟩

set_option maxHeartbeats 51200000 in
theorem l71Ops_any (B P N : Nat) (w : World) (h : Rd B P w) (hN : N ≤ 24) (hP : P ≤ 600000000) :
    Calls Try.prog 30 #[.pointer (some ⟨B, 0, none⟩), .int .i64 (N : Int)] w fun e w' => ∃ vo gs cs v rs p, e = .returned (.tuple #[vo, .agg #[.slice (some ⟨gs, 0, none⟩) 8 cs, v]]) ∧ PoolR p ∧ OwnP (w.heap.size + 1) w' gs cs v rs p ∧ RdTo B (P + 124 * N) w w' := by
  have hBL := h.lt
  have HR1 : Hid (RdTo B P w (w.alloc (.cells #[.slice none 0 0, .slice none 0 0] 50))) := Lib.hid ((RdTo.refl h).alloc _)
  have HPN := Lib.hid (poolNew_any (w.alloc (.cells #[.slice none 0 0, .slice none 0 0] 50)))
  have HN1 := Lib.hid (heap_alloc_new w (.cells #[.slice none 0 0, .slice none 0 0] 50))
  go_enter Try.func30, Try.ntmps30
  go_wp2_with fail
  refine HPN.out.mono ?_
  rintro e w2 ⟨g, c, v, rfl, hO2, hb2⟩
  obtain ⟨va, vn, vc, rfl⟩ := arr_slice hO2.vols.arr
  have hlo : w.heap.size < w2.heap.size := by have := hb2.size; simp at this; omega
  have HQ4 := Lib.hid (QSt.new (HR1.out.trans (rdTo_below HR1.out.1 hb2)) hBL hlo (hO2.mono (by simp)) ((hb2.block w.heap.size (by simp)).trans HN1.out))
  clear hO2 hb2 HPN HN1
  go_wp2_with fail
  obtain ⟨b, hb⟩ : ∃ b, w2.heap.size = b := ⟨_, rfl⟩
  rw [hb] at HQ4 hlo ⊢
  clear hb
  go_loopw [7, 8, 9, 10, 11] (fun o i _ _ _ W => ∃ (k m gs cs : Nat) (v : Value) (rs : List Rw) (p : Po), k ≤ N ∧ m ≤ k ∧ i = .int .i64 (k : Int) ∧ QSt w B (P + 124 * k) b gs cs v rs p o m W) (fun _ i _ _ _ _ => N - (intOf i).toNat)
  case atStart => exact ⟨0, 0, _, _, _, _, _, by omega, by omega, rfl, HQ4.out⟩
  case round =>
    obtain ⟨k, m, gs, cs, v, rs, p, hk, hm, rfl, hQ⟩ := hrel
    obtain ⟨a, n, c', rfl⟩ := arr_slice hQ.own.vols.arr
    have HQ := Lib.hid hQ
    clear HQ4
    by_cases hlt : k < N
    · have c0 := hQ.c0
      have c1 := hQ.c1
      have lb := hQ.lt
      clear hQ
      go_wp2_with fail
      refine (l71Fits_any B (P + 124 * k) (w.heap.size + 1) gs cs a n c' rs p wr HQ.out.rd.1 (by omega) HQ.out.own HQ.out.ok (by omega)).mono ?_
      rintro e w3 ⟨o, rfl, ho, hR3⟩
      have HQ3 := Lib.hid (HQ.out.turn hR3)
      clear hR3 c0 c1 lb HQ
      obtain ⟨k1, k2, k3⟩ : o.name.size ≤ maxLen ∧ o.dest.size ≤ maxLen ∧ o.text.size ≤ maxLen := by obtain ⟨h1, h2, h3, _⟩ := ho; unfold maxLen; omega
      obtain ⟨kd, nm, dst, num, tx⟩ := o
      dsimp only [Ov.val] at k1 k2 k3 ⊢
      clear ho
      have HQ4 := Lib.hid (HQ3.out.alloc (.cells #[.int .i64 kd, .string nm, .string dst, .int .i64 num, .string tx] 75))
      have HA4 := Lib.hid (OpAt.new w3 kd nm dst num tx)
      go_upto_region 7 with fail
      obtain ⟨w4, hw4⟩ : ∃ w4, (w3.alloc (.cells #[.int .i64 kd, .string nm, .string dst, .int .i64 num, .string tx] 75)) = w4 := ⟨_, rfl⟩
      obtain ⟨ob, hob⟩ : ∃ ob, w3.heap.size = ob := ⟨_, rfl⟩
      rw [hw4] at HQ4 HA4 ⊢
      rw [hob] at HA4 ⊢
      have lb : b < ob := by rw [← hob]; exact HQ3.out.lt
      clear hw4 hob HQ3
      go_cut [10, 11] from 14 to 38 (fun x y W => ∃ (xb gq yq : Nat) (v3 : Value) (rs3 : List Rw) (q : Po) (C : Nat) (bo : Bool), x = .pointer (some ⟨xb, 0, none⟩) ∧ y = .bool bo ∧ W.cell? ⟨xb, 0, none⟩ = some (.slice (some ⟨gq, 0, none⟩) 8 yq) ∧ W.cell? ⟨xb, 1, none⟩ = some v3 ∧ OwnP C W gq yq v3 rs3 q ∧ PoolR q ∧ w4.heap.size ≤ C ∧ OpAt W ob ⟨kd, nm, dst, num, tx⟩ ∧ QSt w B (P + 124 * k + 124) b gs cs (.slice a n c') rs p u7 m W)
      case first =>
        have HOD := Lib.hid HQ4.out.drew
        have HPR := Lib.hid HQ4.out.ok
        have HDK := Lib.hid (doF_ok HQ4.out.ok ⟨kd, nm, dst, num, tx⟩)
        have HAD : Hid (OpAt w4.drew ob ⟨kd, nm, dst, num, tx⟩) := Lib.hid HA4.out
        have HOC := Lib.hid (fun W (hb : Below w4.heap.size w4.drew W) => (HAD.out.keep (hb.block ob HA4.out.1) hb.size).cells)
        have HOLD : Hid (gs < w4.heap.size ∧ (∀ t, (Value.slice a n c').ownBlock = some t → t < w4.heap.size) ∧ (∀ i, i < p.vols.length → blkOf (rth rs i).val < w4.heap.size) ∧ (∀ t, u7.ownBlock = some t → t < w4.heap.size)) := Lib.hid ⟨HQ4.out.own.lt, fun t e => (arr_at HQ4.out.own.vols.arr t e).2, fun i hi => (HQ4.out.own.vols.blk_lt i hi).2, fun t e => by
          obtain ⟨xs, hxs⟩ := HQ4.out.out
          exact (out_at hxs t e).2⟩
        obtain ⟨c2, c3, c4, c5, c6⟩ := HA4.out.cells
        have c0 := HQ4.out.c0
        have c1 := HQ4.out.c1
        have lb4 := HQ4.out.lt
        have lo4 := HA4.out.1
        go_region_with (first
          | (go_at_call 37; refine (copy_own (w.heap.size + 1) gs cs a n c' rs p _ (by first | exact HOD.out.own | exact HOD.out.own.below ((Below.refl _ _).alloc (Nat.le_refl _) _) (Nat.le_refl _)) HPR.out).mono ?_; rintro e W5 ⟨gp, yp, ta, tn, tc, rs2, rfl, hO5, hb5⟩; have HB5 : Hid (Below w4.heap.size w4.drew W5) := Lib.hid (by first | exact hb5 | exact ((Below.refl _ w4.drew).alloc (Nat.le_refl _) _).trans (hb5.mono (by simp))); have HO5 : Hid (OwnP w4.heap.size W5 gp yp (.slice ta tn tc) rs2 p) := Lib.hid (hO5.mono (by first | exact Nat.le_refl _ | simp)); (try (have hxb := hb5.block w4.heap.size (by simp); have hgp : gp ≠ w4.heap.size := (by have := hO5.low; simp at this; omega); have HX := Lib.hid (hxb.trans (heap_alloc_new w4.drew (.cells #[.slice none 0 0, .slice none 0 0] 50))); clear hxb)); clear hO5 hb5; have hs5 := HB5.out.size; obtain ⟨c2, c3, c4, c5, c6⟩ := HOC.out W5 HB5.out; have hl5 : ob < W5.heap.size := (by simp at hs5; omega))
          | (go_at_call 36; refine (l12Do_any gp yp ta tn tc w4.heap.size rs2 p ⟨kd, nm, dst, num, tx⟩ _ (by first | exact HO5.out | exact HO5.out.below ((Below.refl _ _).alloc (Nat.le_refl _) _) (Nat.le_refl _)) HPR.out k1 k2 k3 (by have := HB5.out.size; first | exact this | (simp at this ⊢; omega))).mono ?_; rintro e W6 ⟨gq, yq, v3, rs3, rfl, hO6, hg6⟩; obtain ⟨xa, xn, xc, rfl⟩ := arr_slice hO6.vols.arr; have HO6 := Lib.hid hO6; have HB6 : Hid (Below w4.heap.size w4.drew W6) := Lib.hid (by first | exact HB5.out.trans (grown_low hg6 HB5.out.size HO5.out.low) | exact (HB5.out.alloc HB5.out.size _).trans (grown_low hg6 (by have := HB5.out.size; simp at this ⊢; omega) HO5.out.low)); (try (have hxb := hg6.block W5.heap.size (by simp) (fun e => by injection e with e; have := HO5.out.lt; omega); have HX6 := Lib.hid (hxb.trans (heap_alloc_new W5 (.cells #[.slice none 0 0, .slice none 0 0] 50))); obtain ⟨x0, x1, z0, z1⟩ := box_cells HX6.out; clear hxb)); (try (have hxb := hg6.block w4.heap.size (by have := HB5.out.size; have := HO5.out.lt; have := HO5.out.low; omega) (fun e => by injection e with e; omega); have HX6 := Lib.hid (hxb.trans HX.out); obtain ⟨x0, x1, z0, z1⟩ := box_cells HX6.out; clear hxb)); clear hO6 hg6; generalize (doF p ⟨kd, nm, dst, num, tx⟩).2 = bo; have hs6 := HB6.out.size; obtain ⟨c2, c3, c4, c5, c6⟩ := HOC.out W6 HB6.out; have hl6 : ob < W6.heap.size := (by simp at hs6; omega)))
        all_goals (
          go_wp2_with fail
          have HQ6 := Lib.hid (HOD.out.turn (rdTo_below HOD.out.rd.1 HB6.out))
          have HA6 := Lib.hid (HAD.out.keep (HB6.out.block ob HA4.out.1) HB6.out.size)
          have hz6 : w4.heap.size ≤ W6.heap.size := HB6.out.size
          have hz5 : w4.heap.size ≤ W5.heap.size := HB5.out.size
          go_meet
          case rel =>
            first
            | (have hX := HX6.out
               obtain ⟨o1, o2, o3, o4⟩ := HOLD.out
               obtain ⟨q1, q2, q3, q4, q5⟩ := seq_box HQ6.out HO6.out HDK.out HA6.out hX (by omega) (by omega) (by omega) (fun t e => by have := o2 t e; omega) (fun i hi => by have := o3 i hi; omega) (fun t e => by have := o4 t e; omega)
               exact ⟨_, gq, yq, _, rs3, _, w4.heap.size, bo, rfl, rfl, q1, q2, q3, HDK.out, Nat.le_refl _, q4, q5⟩)
            | exact ⟨W6.heap.size, gq, yq, _, rs3, _, w4.heap.size, bo, rfl, rfl, (new_cells W6 #[.slice (some ⟨gq, 0, none⟩) 8 yq, .slice xa xn xc] 50).1 0, (new_cells W6 #[.slice (some ⟨gq, 0, none⟩) 8 yq, .slice xa xn xc] 50).1 1, HO6.out.below ((Below.refl _ _).alloc (Nat.le_refl _) _) (Nat.le_refl _), HDK.out, Nat.le_refl _, HA6.out.keep (heap_alloc_old W6 _ HA6.out.1) (by simp), HQ6.out.alloc _⟩)
      case rest =>
        obtain ⟨xb, gq, yq, v3, rs3, q, C, bo, rfl, rfl, x0, x1, hO, hq, hC, hA, hQ⟩ := hcut
        obtain ⟨xa, xn, xc, rfl⟩ := arr_slice hO.vols.arr
        have HQ5 := Lib.hid hQ
        have HO5 := Lib.hid hO
        have HA5 := Lib.hid hA
        have HPQ := Lib.hid hq
        have lx := World.block_lt_of_cell? wc ⟨xb, 0, none⟩ x0
        have lw4 := HA4.out.1
        obtain ⟨c2, c3, c4, c5, c6⟩ := hA.cells
        have hnl : ∀ t, u7.ownBlock = some t → t < w4.heap.size := fun t e => by
          obtain ⟨xs, hxs⟩ := HQ4.out.out
          exact (out_at hxs t e).2
        have HNL := Lib.hid hnl
        clear hQ hO hA hq hnl HQ4
        have HOP : Hid (Calls Try.prog 38 #[.agg #[.int .i64 kd, .string nm, .string dst, .int .i64 num, .string tx]] wc fun e w' => e = .returned (.bool (opB ⟨kd, nm, dst, num, tx⟩)) ∧ Below wc.heap.size wc w') := Lib.hid (OpOk_any kd nm dst num tx wc k1 k2 k3)
        go_wp2_with fail
        refine HOP.out.mono ?_
        rintro e w5 ⟨rfl, hb5⟩
        have HQ6 := Lib.hid (HQ5.out.turn (rdTo_below HQ5.out.rd.1 hb5))
        have HO6 := Lib.hid (HO5.out.below hb5 (Nat.le_refl _))
        have HA6 := Lib.hid (HA5.out.keep (hb5.block ob HA5.out.1) hb5.size)
        have x0 := (hb5.cell (p := ⟨xb, 0, none⟩) lx).trans x0
        have x1 := (hb5.cell (p := ⟨xb, 1, none⟩) lx).trans x1
        clear hb5 HQ5 HO5 HA5 HOP c2 c3 c4 c5 c6 lx
        generalize opB ⟨kd, nm, dst, num, tx⟩ = bq
        have HE : Hid (P + 124 * k + 124 ≤ P + 124 * (k + 1)) := Lib.hid (by omega)
        cases bq
        · go_wp2_with fail
          go_roundw
          case rel => exact ⟨k + 1, m, gs, cs, _, rs, p, by omega, by omega, by go_num, HQ6.out.mono HE.out⟩
          case measure => simp [intOf]; omega
        · cases bo
          · go_wp2_with fail
            go_roundw
            case rel => exact ⟨k + 1, m, gs, cs, _, rs, p, by omega, by omega, by go_num, HQ6.out.mono HE.out⟩
            case measure => simp [intOf]; omega
          · have c0 := HQ6.out.c0
            have c1 := HQ6.out.c1
            have f0 := HQ6.out.f0
            have f1 := HQ6.out.f1
            have HQ7 := Lib.hid (HQ6.out.take HO6.out HPQ.out (by omega) (fun t e => by have := HNL.out t e; omega))
            have HA7 : Hid (OpAt ((w5.setCell ⟨b, 0, none⟩ (.slice (some ⟨gq, 0, none⟩) 8 yq)).setCell ⟨b, 1, none⟩ (.slice xa xn xc)) ob ⟨kd, nm, dst, num, tx⟩) := Lib.hid (HA6.out.keep ((Below.heap_setCell _ ⟨b, 1, none⟩ (.slice xa xn xc) ob (fun e => by have e2 : ob = b := e; omega)).trans (Below.heap_setCell w5 ⟨b, 0, none⟩ _ ob (fun e => by have e2 : ob = b := e; omega))) (by simp [World.setCell]))
            go_upto_region 10 with fail
            obtain ⟨w7, hw7⟩ : ∃ w7, ((w5.setCell ⟨b, 0, none⟩ (.slice (some ⟨gq, 0, none⟩) 8 yq)).setCell ⟨b, 1, none⟩ (.slice xa xn xc)) = w7 := ⟨_, rfl⟩
            rw [hw7] at HQ7 HA7 ⊢
            clear hw7 c0 c1 f0 f1 x0 x1
            obtain ⟨c2, c3, c4, c5, c6⟩ := HA7.out.cells
            obtain ⟨xs, hxs⟩ := HQ7.out.out
            have HXS := Lib.hid hxs
            have l7 := HA7.out.1
            have lb7 := HQ7.out.lt
            clear hxs
            go_wp2_with (at_builtin; refine wpList_append_op w7 rfl _ _ rfl (b + 1) u7 m xs HXS.out rfl kd nm dst num tx rfl (by omega) (by omega) ?_; intro g8 cap8 w8 hown hg8 hat hlt8)
            have HQ8 := Lib.hid (HQ7.out.app hown hg8 hat)
            clear hown hg8 hat
            go_roundw
            case rel => exact ⟨k + 1, m + 1, gq, yq, _, rs3, q, by omega, by omega, by go_num, HQ8.out.mono HE.out⟩
            case measure => simp [intOf]; omega
    · obtain rfl : k = N := by omega
      have c0 := hQ.c0
      have c1 := hQ.c1
      have d0 := hQ.d0
      have d1 := hQ.d1
      have g0 := hQ.g0
      have g1 := hQ.g1
      have e0 := hQ.drew.d0
      have e1 := hQ.drew.d1
      clear hQ
      go_wp2_with fail
      go_region
      all_goals go_wp2_with fail
      all_goals refine bodyPost_ret (v := .tuple #[u7, .agg #[.slice (some ⟨gs, 0, none⟩) 8 cs, .slice a n c']]) (by simp [results, Try.f30, go_sem, d0, d1]) rfl ⟨_, gs, cs, _, rs, p, rfl, HQ.out.ok, ?_, ?_⟩
      all_goals first
        | exact (((HQ.out.own.setLow ⟨w.heap.size, 0, none⟩ (by show w.heap.size < w.heap.size + 1; omega) _).setLow ⟨w.heap.size, 1, none⟩ (by show w.heap.size < w.heap.size + 1; omega) _).below (Below.drew (Below.refl _ _)) (Nat.le_refl _))
        | exact rdTo_drew ((HQ.out.rd.setFar HQ.out.BL ⟨w.heap.size, 0, none⟩ (Nat.le_refl _) _).setFar HQ.out.BL ⟨w.heap.size, 1, none⟩ (Nat.le_refl _) _)

end Go.Proofs.Ytgogokahpmljbaa
