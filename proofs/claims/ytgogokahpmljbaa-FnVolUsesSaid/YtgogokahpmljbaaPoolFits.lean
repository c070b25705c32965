/- A drawn change that a pool can take: the model's l71Fits. -/
import Derived.Test.YtgogokahpmljbaaPoolNew
import Derived.Test.YtgogokahpmljbaaPoolDraw
import Derived.Deep.RegionWith
import Derived.Deep.CutBlock
import Derived.Deep.CutRange
namespace Go.Proofs.Ytgogokahpmljbaa
open Go.RowKit
set_option linter.unusedVariables false
set_option maxRecDepth 100000

theorem rdTo_below {B P : Nat} {w w' : World} (h : Rd B P w) (hb : Below w.heap.size w w') : RdTo B P w w' :=
  ⟨h.kept (fun q hq => hb.cell (by have := h.lt; omega)) (hb.frozen (p := ⟨B, 1, none⟩) h.lt), grown_below hb⟩

theorem OwnP.turn {C B : Nat} {w w' : World} {gs cs : Nat} {v : Value} {rs : List Rw} {p : Po} (h : OwnP C w gs cs v rs p) (hg : w.grownBy w' (some B)) (hB : B < C) : OwnP C w' gs cs v rs p := by
  have h1 := h.low
  exact ⟨h.low, Nat.lt_of_lt_of_le h.lt hg.size, h.cap, h.sl.kept hg h.lt (fun e => by injection e with e; omega), h.vols.keptFar hg (fun e => by have := (arr_at h.vols.arr B e).1; omega) (fun i hi e => by have := (h.vols.blk_lt i hi).1; omega), h.farV, h.farR⟩

theorem OSt.far {w : World} {B P b : Nat} {o : Ov} {W : World} (h : OSt w B P b o W) (p : Addr) (hp : b < p.block) (v : Value) : OSt w B P b o (W.setCell p v) := by
  have h1 := h.BL
  have h2 := h.lo
  have hk : ∀ k, k ≤ b → (W.setCell p v).heap[k]? = W.heap[k]? := fun k hk => Below.heap_setCell W p v k (by omega)
  exact ⟨h.rd.setFar h1 p (by omega) v, h.BL, h.lo, by simpa [World.setCell] using h.lt, fun i hi => (World.cell?_of_block (w := W) (a := ⟨b, i, none⟩) (hk b (Nat.le_refl _))).trans (h.op i hi), fun i => (World.frozen?_setCell _ _ _ _).trans (h.fz i),
    fun i hi => (World.cell?_of_block (w := W) (a := ⟨w.heap.size, i, none⟩) (hk w.heap.size (by omega))).trans (h.re i hi), fun i => (World.frozen?_setCell _ _ _ _).trans (h.rz i)⟩

theorem OSt.fin2 {w : World} {B P b m : Nat} {o : Ov} {W : World} (h : OSt w B P b o W) (hm : w.heap.size = m) (v0 v1 v2 v3 v4 : Value) :
    RdTo B P w (((((W.setCell ⟨m, 0, none⟩ v0).setCell ⟨m, 1, none⟩ v1).setCell ⟨m, 2, none⟩ v2).setCell ⟨m, 3, none⟩ v3).setCell ⟨m, 4, none⟩ v4) := by
  subst hm; exact h.fin v0 v1 v2 v3 v4

/-- A copy of a pool is the call's own. -/
theorem copy_own (C gs cs : Nat) (a : Option Addr) (n c : Nat) (rs : List Rw) (p : Po) (w : World) (hO : OwnP C w gs cs (.slice a n c) rs p) (hP : PoolR p) :
    Calls Try.prog 37 #[.agg #[.slice (some ⟨gs, 0, none⟩) 8 cs, .slice a n c]] w fun e w' => ∃ g2 c2 ta tn tc rs2, e = .returned (.agg #[.slice (some ⟨g2, 0, none⟩) 8 c2, .slice ta tn tc]) ∧
      OwnP w.heap.size w' g2 c2 (.slice ta tn tc) rs2 p ∧ Below w.heap.size w w' := by
  have hl := own_len hO.vols
  have h4 := hP.len4
  refine (l11Copy_any gs 0 cs a n c p w hO.sl.1 (storeB_len hP.store) (rdV_of_own hO.vols (by omega) hP.vols) (by omega) (fun i hi => by have := (hP.vol (k := i) (by omega)).2.2.1; omega)).mono ?_
  rintro e w' ⟨g2, c2, v, rs2, rfl, h1, h2, h3, h4, h5, h6, h7, h8⟩
  obtain ⟨ta, tn, tc, rfl⟩ := arr_slice h5.arr
  exact ⟨g2, c2, ta, tn, tc, rs2, rfl, ⟨h1, h2, h3, h4, h5, fun e => by have := h6 g2 e; omega, fun i hi e => by have := h7 i hi; omega⟩, h8⟩

set_option maxHeartbeats 51200000 in
theorem l71Fits_any (B P C gs cs : Nat) (a : Option Addr) (n c : Nat) (rs : List Rw) (p : Po) (w : World) (h : Rd B P w) (hP : P ≤ 700000000) (hO : OwnP C w gs cs (.slice a n c) rs p) (hR : PoolR p) (hBC : B < C) :
    Calls Try.prog 35 #[.pointer (some ⟨B, 0, none⟩), .agg #[.slice (some ⟨gs, 0, none⟩) 8 cs, .slice a n c]] w fun e w' => ∃ o : Ov, e = .returned o.val ∧ OpSm o ∧ RdTo B (P + 124) w w' := by
  have hBL := h.lt
  have hl := own_len hO.vols
  have h4 := hR.len4
  have n0 := new_cells w #[.slice (some ⟨gs, 0, none⟩) 8 cs, .slice a n c] 50
  have n1 := new_cells (w.alloc (.cells #[.slice (some ⟨gs, 0, none⟩) 8 cs, .slice a n c] 50)) #[.int .i64 0, .string ⟨#[]⟩, .string ⟨#[]⟩, .int .i64 0, .string ⟨#[]⟩] 75
  have hx := fun i => (old_cells (w.alloc (.cells #[.slice (some ⟨gs, 0, none⟩) 8 cs, .slice a n c] 50)) (.cells #[.int .i64 0, .string ⟨#[]⟩, .string ⟨#[]⟩, .int .i64 0, .string ⟨#[]⟩] 75) w.heap.size i (by simp)).1
  have hb1 : Below w.heap.size w (w.alloc (.cells #[.slice (some ⟨gs, 0, none⟩) 8 cs, .slice a n c] 50)) := (Below.refl _ _).alloc (Nat.le_refl _) _
  have HR1 : Hid (RdTo B P w (w.alloc (.cells #[.slice (some ⟨gs, 0, none⟩) 8 cs, .slice a n c] 50))) := Lib.hid ((RdTo.refl h).alloc _)
  have HR2 : Hid (RdTo B P (w.alloc (.cells #[.slice (some ⟨gs, 0, none⟩) 8 cs, .slice a n c] 50)) ((w.alloc (.cells #[.slice (some ⟨gs, 0, none⟩) 8 cs, .slice a n c] 50)).alloc (.cells #[.int .i64 0, .string ⟨#[]⟩, .string ⟨#[]⟩, .int .i64 0, .string ⟨#[]⟩] 75))) := Lib.hid ((RdTo.refl (h.alloc _)).alloc _)
  have HO1 := Lib.hid (hO.below hb1 (Nat.le_refl _))
  have hs1 : (w.alloc (.cells #[.slice (some ⟨gs, 0, none⟩) 8 cs, .slice a n c] 50)).heap.size = w.heap.size + 1 := by simp
  have HRE : Hid (∀ i, i < 5 → ((w.alloc (.cells #[.slice (some ⟨gs, 0, none⟩) 8 cs, .slice a n c] 50)).alloc (.cells #[.int .i64 0, .string ⟨#[]⟩, .string ⟨#[]⟩, .int .i64 0, .string ⟨#[]⟩] 75)).cell? ⟨(w.alloc (.cells #[.slice (some ⟨gs, 0, none⟩) 8 cs, .slice a n c] 50)).heap.size, i, none⟩ = some (ovc Ov.zero i)) := Lib.hid (fun i hi => (n1.1 i).trans (by
    obtain rfl | rfl | rfl | rfl | rfl : i = 0 ∨ i = 1 ∨ i = 2 ∨ i = 3 ∨ i = 4 := by omega
    all_goals rfl))
  have HRZ : Hid (∀ i, ((w.alloc (.cells #[.slice (some ⟨gs, 0, none⟩) 8 cs, .slice a n c] 50)).alloc (.cells #[.int .i64 0, .string ⟨#[]⟩, .string ⟨#[]⟩, .int .i64 0, .string ⟨#[]⟩] 75)).frozen? ⟨(w.alloc (.cells #[.slice (some ⟨gs, 0, none⟩) 8 cs, .slice a n c] 50)).heap.size, i, none⟩ = false) := Lib.hid n1.2
  have HPC : Hid (∀ (Q : Nat) (W : World), RdTo B Q (w.alloc (.cells #[.slice (some ⟨gs, 0, none⟩) 8 cs, .slice a n c] 50)) W → W.cell? ⟨w.heap.size, 0, none⟩ = some (.slice (some ⟨gs, 0, none⟩) 8 cs) ∧ W.cell? ⟨w.heap.size, 1, none⟩ = some (.slice a n c)) := Lib.hid (fun Q W hr => by
    have hk := hr.2.block w.heap.size (by omega) (fun e => by injection e with e; omega)
    exact ⟨(World.cell?_of_block (w := (w.alloc (.cells #[.slice (some ⟨gs, 0, none⟩) 8 cs, .slice a n c] 50))) (a := ⟨w.heap.size, 0, none⟩) hk).trans (n0.1 0), (World.cell?_of_block (w := (w.alloc (.cells #[.slice (some ⟨gs, 0, none⟩) 8 cs, .slice a n c] 50))) (a := ⟨w.heap.size, 1, none⟩) hk).trans (n0.1 1)⟩)
  have HRA : Hid (0 < n → ∃ g, a = some ⟨g, 0, none⟩ ∧ Hid (∀ (Q : Nat) (W : World), RdTo B Q (w.alloc (.cells #[.slice (some ⟨gs, 0, none⟩) 8 cs, .slice a n c] 50)) W → ∀ j, j < n → W.cell? ⟨g, j * 2, none⟩ = some (.string (vth p.vols j).name) ∧ (vth p.vols j).name.size ≤ 1)) := Lib.hid (fun hn0 => by
    obtain ⟨g, cap, hav, hgB, hgl, hcap, hrows, _⟩ := HO1.out.vols.rows (by omega)
    injection hav with ea _ _
    refine ⟨g, ea, Lib.hid (fun Q W hr j hj => ?_)⟩
    have h0 := (hrows j (by rw [HO1.out.vols.len]; omega)).1
    rw [(HO1.out.vols.row j (by omega)).1, Nat.zero_add] at h0
    exact ⟨(World.cell?_of_block (w := (w.alloc (.cells #[.slice (some ⟨gs, 0, none⟩) 8 cs, .slice a n c] 50))) (a := ⟨g, j * 2, none⟩) (hr.2.block g hgl (fun e => by injection e with e; omega))).trans h0, Nat.le_of_eq (nameB_size _ (hR.vol (k := j) (by omega)).2.1)⟩)
  have HR := Lib.hid hR
  have HL := Lib.hid hl
  have HSM : Hid (∀ (o : Ov), OpSm o → o.name.size ≤ maxLen ∧ o.dest.size ≤ maxLen ∧ o.text.size ≤ maxLen) := Lib.hid (fun o ho => by obtain ⟨h1, h2, h3, _⟩ := ho; unfold maxLen; omega)
  have hn : n ≤ 4 := by omega
  clear n0 n1 hx hb1 hl h4 hR hO
  go_enter Try.func35, Try.ntmps35
  go_wp2_with fail
  refine (l71Op_any B P _ HR2.out.1 (by omega)).mono ?_
  rintro e w3 ⟨o0, rfl, ho0, hR3⟩
  have HS4 := Lib.hid (OSt.new o0 (HR2.out.trans hR3) (by omega) hR3 (by simp) HRE.out HRZ.out)
  clear hR3
  have HO0 := Lib.hid ho0
  obtain ⟨k0, nm0, dst0, num0, tx0⟩ := o0
  clear ho0
  dsimp only [Ov.val] at HS4 ⊢
  go_wp2_with fail
  have hlo := HS4.out.lo
  obtain ⟨W0, hW0⟩ : ∃ W0, (w.alloc (.cells #[.slice (some ⟨gs, 0, none⟩) 8 cs, .slice a n c] 50)) = W0 := ⟨_, rfl⟩
  rw [hW0] at HS4 HO1 HPC HR1 hs1 hlo HRA
  clear HRE HRZ HR2
  obtain ⟨b, hb⟩ : ∃ b, w3.heap.size = b := ⟨_, rfl⟩
  rw [hb] at HS4 hlo ⊢
  clear hb hW0
  go_loopw [6, 7, 8] (fun i _ _ W => ∃ (k : Nat) (o : Ov), k ≤ 8 ∧ i = .int .i64 (k : Int) ∧ OpSm o ∧ OSt W0 B (P + 12 + 14 * k) b o W) (fun i _ _ _ => 8 - (intOf i).toNat)
  case atStart => exact ⟨0, _, by omega, rfl, HO0.out, HS4.out⟩
  case round =>
    obtain ⟨k, o, hk, rfl, ho, hS⟩ := hrel
    have HS := Lib.hid hS
    have HO := Lib.hid ho
    clear hS HS4 HO0
    by_cases hlt : k < 8
    · obtain ⟨k1, k2, k3⟩ := HSM.out o ho
      obtain ⟨kd, nm, dst, num, tx⟩ := o
      dsimp only [OpSm] at ho k1 k2 k3
      have HOP : Hid (Calls Try.prog 38 #[.agg #[.int .i64 kd, .string nm, .string dst, .int .i64 num, .string tx]] wr fun e w' => e = .returned (.bool (opB ⟨kd, nm, dst, num, tx⟩)) ∧ Below wr.heap.size wr w') := Lib.hid (OpOk_any kd nm dst num tx wr k1 k2 k3)
      obtain ⟨c0, c1, c2, c3, c4, f0, f1, f2, f3, f4⟩ := HS.out.cells
      go_wp2_with fail
      refine HOP.out.mono ?_
      rintro e w4 ⟨rfl, hb4⟩
      have HS4 := Lib.hid (HS.out.turn (rdTo_below HS.out.rd.1 hb4))
      clear hb4 HOP HS c0 f0 c1 f1 c2 f2 c3 f3 c4 f4
      obtain ⟨q, hq⟩ : ∃ q, opB ⟨kd, nm, dst, num, tx⟩ = q := ⟨_, rfl⟩
      rw [hq]
      clear hq
      go_upto_if 16 with fail
      go_cut [] from 11 to 47 (fun W => OSt W0 B (P + 12 + 14 * k) b ⟨kd, nm, dst, num, tx⟩ W)
      case first =>
        cases q
        · go_wp2_with fail
          go_meet
          case rel => exact HS4.out
        · obtain ⟨c0, c1, c2, c3, c4, f0, f1, f2, f3, f4⟩ := HS4.out.cells
          obtain ⟨p0, p1⟩ := HPC.out _ w4 HS4.out.rd
          have HOD := Lib.hid (HO1.out.turn HS4.out.drew.rd.2 hBC)
          have HSD := Lib.hid HS4.out.drew
          have hl4 := HS4.out.lt
          have hl4b : w.heap.size < w4.heap.size := by omega
          go_wp2_with fail
          go_region_with (first
            | (go_at_call 37; refine (copy_own C gs cs a n c rs p _ (by first | exact HOD.out | exact HOD.out.below ((Below.refl _ _).alloc (Nat.le_refl _) _) (Nat.le_refl _)) HR.out).mono ?_; rintro e W5 ⟨gp, yp, ta, tn, tc, rs2, rfl, hO5, hb5⟩; have HB5 : Hid (Below w4.heap.size w4.drew W5) := Lib.hid (by first | exact hb5 | exact ((Below.refl _ w4.drew).alloc (Nat.le_refl _) _).trans (hb5.mono (by simp))); have HO5 : Hid (OwnP w4.heap.size W5 gp yp (.slice ta tn tc) rs2 p) := Lib.hid (hO5.mono (by first | exact Nat.le_refl _ | simp)); have HS5 := Lib.hid (HSD.out.turn (rdTo_below HSD.out.rd.1 HB5.out)); (try (have hxb := hb5.block w4.heap.size (by simp); have hgp : gp ≠ w4.heap.size := (by have := hO5.low; simp at this; omega); have x0 : W5.cell? ⟨w4.heap.size, 0, none⟩ = some (.slice none 0 0) := (World.cell?_of_block (w := (w4.drew.alloc (.cells #[.slice none 0 0, .slice none 0 0] 50))) (a := ⟨w4.heap.size, 0, none⟩) hxb).trans ((new_cells w4.drew #[.slice none 0 0, .slice none 0 0] 50).1 0); have x1 : W5.cell? ⟨w4.heap.size, 1, none⟩ = some (.slice none 0 0) := (World.cell?_of_block (w := (w4.drew.alloc (.cells #[.slice none 0 0, .slice none 0 0] 50))) (a := ⟨w4.heap.size, 1, none⟩) hxb).trans ((new_cells w4.drew #[.slice none 0 0, .slice none 0 0] 50).1 1); have z0 : W5.frozen? ⟨w4.heap.size, 0, none⟩ = false := (World.frozen?_of_block (w := (w4.drew.alloc (.cells #[.slice none 0 0, .slice none 0 0] 50))) (a := ⟨w4.heap.size, 0, none⟩) hxb).trans ((new_cells w4.drew #[.slice none 0 0, .slice none 0 0] 50).2 0); have z1 : W5.frozen? ⟨w4.heap.size, 1, none⟩ = false := (World.frozen?_of_block (w := (w4.drew.alloc (.cells #[.slice none 0 0, .slice none 0 0] 50))) (a := ⟨w4.heap.size, 1, none⟩) hxb).trans ((new_cells w4.drew #[.slice none 0 0, .slice none 0 0] 50).2 1); clear hxb)); clear hO5 hb5; have hl5 := HS5.out.lt; have hs5 := HB5.out.size; obtain ⟨c0, c1, c2, c3, c4, f0, f1, f2, f3, f4⟩ := HS5.out.cells)
            | (go_at_call 36; refine (l12Do_any gp yp ta tn tc w4.heap.size rs2 p ⟨kd, nm, dst, num, tx⟩ _ (by first | exact HO5.out | exact HO5.out.below ((Below.refl _ _).alloc (Nat.le_refl _) _) (Nat.le_refl _)) HR.out k1 k2 k3 (by have := HB5.out.size; first | exact this | (simp at this ⊢; omega))).mono ?_; rintro e W6 ⟨gq, yq, v3, rs3, rfl, hO6, hg6⟩; obtain ⟨xa, xn, xc, rfl⟩ := arr_slice hO6.vols.arr; have HB6 : Hid (Below w4.heap.size w4.drew W6) := Lib.hid (by first | exact HB5.out.trans (grown_low hg6 HB5.out.size HO5.out.low) | exact (HB5.out.alloc HB5.out.size _).trans (grown_low hg6 (by have := HB5.out.size; simp at this ⊢; omega) HO5.out.low)); have HS6 := Lib.hid (HSD.out.turn (rdTo_below HSD.out.rd.1 HB6.out)); (try (have hxb := hg6.block W5.heap.size (by simp) (fun e => by injection e with e; have := HO5.out.lt; omega); have x0 : W6.cell? ⟨W5.heap.size, 0, none⟩ = some (.slice none 0 0) := (World.cell?_of_block (w := (W5.alloc (.cells #[.slice none 0 0, .slice none 0 0] 50))) (a := ⟨W5.heap.size, 0, none⟩) hxb).trans ((new_cells W5 #[.slice none 0 0, .slice none 0 0] 50).1 0); have x1 : W6.cell? ⟨W5.heap.size, 1, none⟩ = some (.slice none 0 0) := (World.cell?_of_block (w := (W5.alloc (.cells #[.slice none 0 0, .slice none 0 0] 50))) (a := ⟨W5.heap.size, 1, none⟩) hxb).trans ((new_cells W5 #[.slice none 0 0, .slice none 0 0] 50).1 1); have z0 : W6.frozen? ⟨W5.heap.size, 0, none⟩ = false := (World.frozen?_of_block (w := (W5.alloc (.cells #[.slice none 0 0, .slice none 0 0] 50))) (a := ⟨W5.heap.size, 0, none⟩) hxb).trans ((new_cells W5 #[.slice none 0 0, .slice none 0 0] 50).2 0); have z1 : W6.frozen? ⟨W5.heap.size, 1, none⟩ = false := (World.frozen?_of_block (w := (W5.alloc (.cells #[.slice none 0 0, .slice none 0 0] 50))) (a := ⟨W5.heap.size, 1, none⟩) hxb).trans ((new_cells W5 #[.slice none 0 0, .slice none 0 0] 50).2 1); clear hxb)); (try (have hxb := hg6.block w4.heap.size (by have := HB5.out.size; have := HO5.out.lt; have := HO5.out.low; omega) (fun e => by injection e with e; omega); have x0 : W6.cell? ⟨w4.heap.size, 0, none⟩ = some (.slice none 0 0) := (World.cell?_of_block (w := W5) (a := ⟨w4.heap.size, 0, none⟩) hxb).trans x0; have x1 : W6.cell? ⟨w4.heap.size, 1, none⟩ = some (.slice none 0 0) := (World.cell?_of_block (w := W5) (a := ⟨w4.heap.size, 1, none⟩) hxb).trans x1; have z0 : W6.frozen? ⟨w4.heap.size, 0, none⟩ = false := (World.frozen?_of_block (w := W5) (a := ⟨w4.heap.size, 0, none⟩) hxb).trans z0; have z1 : W6.frozen? ⟨w4.heap.size, 1, none⟩ = false := (World.frozen?_of_block (w := W5) (a := ⟨w4.heap.size, 1, none⟩) hxb).trans z1; clear hxb)); clear hO6 hg6; generalize (doF p ⟨kd, nm, dst, num, tx⟩).2 = bo; have hl6 := HS6.out.lt; have hs6 := HB6.out.size; have hr6 := Nat.lt_trans HS6.out.lo HS6.out.lt; have he6 := HS6.out.empty; rw [hs1] at he6 hr6; obtain ⟨d0, d1, d2, d3, d4, g0, g1, g2, g3, g4⟩ := he6; obtain ⟨c0, c1, c2, c3, c4, f0, f1, f2, f3, f4⟩ := HS6.out.cells))
          all_goals (
            cases bo
            · go_wp2_with fail
              go_meet
              case rel =>
                first
                | (have hx := x0; exact (HS6.out.far _ (by first | exact hl5 | exact hl4) _).far _ (by first | exact hl5 | exact hl4) _)
                | exact HS6.out.alloc _
            · go_wp2_with fail
              refine bodyPost_ret (v := (Ov.mk kd nm dst num tx).val) (by simp [results, Try.f35, go_sem, Ov.val, d0, d1, d2, d3, d4, hr6]) rfl ⟨_, rfl, HO.out, ?_⟩
              refine RdTo.mono (P := P + 12 + 14 * k) (HR1.out.trans ?_) (by omega)
              first
              | (have hx := x0; exact ((HS6.out.far _ (by first | exact hl5 | exact hl4) _).far _ (by first | exact hl5 | exact hl4) _).fin2 hs1 _ _ _ _ _)
              | exact (HS6.out.fin2 hs1 _ _ _ _ _).alloc _)
      case rest =>
        have HS7 := Lib.hid hcut
        clear hcut HS4
        go_wp2_with fail
        refine (l71Op_any B _ _ HS7.out.rd.1 (by omega)).mono ?_
        rintro e w8 ⟨o2, rfl, ho2, hR8⟩
        have HS8 := Lib.hid (HS7.out.turn hR8)
        have HO2 := Lib.hid ho2
        obtain ⟨kd2, nm2, dst2, num2, tx2⟩ := o2
        dsimp only [OpSm] at ho2
        dsimp only [Ov.val]
        have HS9 := Lib.hid (HS8.out.set5 kd2 nm2 dst2 num2 tx2)
        obtain ⟨c0, c1, c2, c3, c4, f0, f1, f2, f3, f4⟩ := HS8.out.cells
        clear hR8 HS7
        go_upto_region 10 with fail
        clear c0 f0 c1 f1 c2 f2 c3 f3 c4 f4 HS8
        obtain ⟨w9, hw9⟩ : ∃ w9, (((((w8.setCell ⟨b, 0, none⟩ (.int .i64 kd2)).setCell ⟨b, 1, none⟩ (.string nm2)).setCell ⟨b, 2, none⟩ (.string dst2)).setCell ⟨b, 3, none⟩ (.int .i64 num2)).setCell ⟨b, 4, none⟩ (.string tx2)) = w9 := ⟨_, rfl⟩
        rw [hw9] at HS9 ⊢
        clear hw9
        obtain ⟨p0, p1⟩ := HPC.out _ w9 HS9.out.rd
        by_cases hn0 : 0 < n
        · have hn1 : (0 : Int) < (n : Int) := by omega
          go_wp2_with fail
          refine (pick_any B _ 3 _ HS9.out.rd.1 (by omega) (by omega)).mono ?_
          rintro e w10 ⟨u, rfl, u0, u1, hR10⟩
          have HS10 := Lib.hid (HS9.out.turn hR10)
          clear hR10 p0 p1 HS9
          by_cases hu : 0 < u
          · obtain ⟨g, rfl, HRW⟩ := HRA.out hn0
            obtain ⟨p0, p1⟩ := HPC.out _ w10 HS10.out.rd
            obtain ⟨c0, c1, c2, c3, c4, f0, f1, f2, f3, f4⟩ := HS10.out.cells
            have HPK := Lib.hid (pick_any B _ n w10.drew HS10.out.drew.rd.1 (by omega) (by omega))
            go_wp2_with fail
            go_region_with (go_at_call 17; refine HPK.out.mono ?_; rintro e w11 ⟨j, rfl, j0, j1, hR11⟩; have HS11 := Lib.hid (HS10.out.drew.turn hR11); clear hR11; obtain ⟨j, rfl⟩ := Int.eq_ofNat_of_zero_le j0; obtain ⟨hrw, hrz⟩ := HRW.out _ w11 HS11.out.rd j (by omega); obtain ⟨p0, p1⟩ := HPC.out _ w11 HS11.out.rd; obtain ⟨c0, c1, c2, c3, c4, f0, f1, f2, f3, f4⟩ := HS11.out.cells; have q1 : IntKind.i64.wrap (j : Int) = (j : Int) := IntWalk.i64_in _ (by omega); have q5 : (j : Int) < n := (by omega); have q6 : ¬ (j : Int) < 0 := (by omega); have q7 : ¬ (n : Int) ≤ (j : Int) := (by omega))
            all_goals (
              go_wp2_with fail
              go_roundw
              case rel =>
                refine ⟨k + 1, ⟨kd2, (vth p.vols j).name, dst2, num2, tx2⟩, by omega, by go_num, ?_, (HS11.out.set1 _).mono (by omega)⟩
                dsimp only [OpSm]; omega
              case measure => simp [intOf]; omega)
          · go_wp2_with fail
            go_roundw
            case rel =>
              exact ⟨k + 1, _, by omega, by go_num, HO2.out, HS10.out.mono (by omega)⟩
            case measure => simp [intOf]; omega
        · obtain rfl : n = 0 := by omega
          go_wp2_with fail
          go_roundw
          case rel =>
            exact ⟨k + 1, _, by omega, by go_num, HO2.out, HS9.out.mono (by omega)⟩
          case measure => simp [intOf]; omega
    · obtain rfl : k = 8 := by omega
      have he := HS.out.empty
      rw [hs1] at he
      obtain ⟨d0, d1, d2, d3, d4, g0, g1, g2, g3, g4⟩ := he
      obtain ⟨c0, c1, c2, c3, c4, f0, f1, f2, f3, f4⟩ := HS.out.cells
      obtain ⟨kd, nm, dst, num, tx⟩ := o
      go_wp2_with fail
      refine bodyPost_ret (v := (Ov.mk kd nm dst num tx).val) (by simp [results, Try.f35, go_sem, Ov.val, d0, d1, d2, d3, d4]) rfl ⟨_, rfl, HO.out, ?_⟩
      exact RdTo.mono (P := P + 12 + 14 * 8) (HR1.out.trans (HS.out.fin2 hs1 _ _ _ _ _)) (by omega)

end Go.Proofs.Ytgogokahpmljbaa
