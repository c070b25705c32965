/- For every two codes the law FnVolForm returns true and leaves both as they were. No condition. -/
import Derived.Test.YtgogokahpmljbaaRows
import Derived.WalkKit
import Derived.ProofKit
import Derived.OpenShut
import Derived.ShutString
import Derived.ChangeOld
import Derived.Below
import Derived.Test.YtgogokahpmljbaaHead
import Derived.Test.YtgogokahpmljbaaDrawVol
import Derived.Test.YtgogokahpmljbaaVolI
import Derived.Deep.RegionHeldLaw
import Derived.Deep.CutRange
namespace Go.Proofs.Ytgogokahpmljbaa.fnVolForm
open Go.ChangeShapes Go.WideShapes Go.ChangeAt Go.RowKit
open Go.ChangeMaps (open_string shut_string)
set_option linter.unusedVariables false

theorem own : ownKnob Try.prog.godebug = none := by kernel_rfl
theorem laidOut : laidOutB Try.prog = true := by kernel_rfl

def IsRow (k : IntKind) (w : World) (a : Option Addr) (len cap : Nat) (zs : List Int) : Prop :=
  (a = none ∧ len = 0 ∧ cap = 0 ∧ zs = []) ∨
  ∃ x, a = some x ∧ len ≤ cap ∧ cap ≤ maxLen ∧ zs.length = cap ∧ (∀ i, i < zs.length → w.cell? (x.add i) = some (.int k (zs.getD i 0))) ∧ ∀ n ∈ zs, (Lit.int k n).wf = true

theorem volB_set {nm : ByteArray} {bs : List Int} (h : volB ⟨nm, bs⟩ = true) (k : Nat) (x : Int) (h0 : 0 ≤ x) (h8 : x ≤ 8) : volB ⟨nm, bs.set k x⟩ = true := by
  obtain ⟨h1, h2, h3, h4⟩ := (volB_iff _).1 h
  refine (volB_iff _).2 ⟨fun b hb => ?_, h2, by simpa using h3, by simpa using h4⟩
  rcases List.mem_or_eq_of_mem_set hb with hb | hb
  · exact h1 b hb
  · omega
theorem volB_set9 {nm : ByteArray} {bs : List Int} (k : Nat) (hk : k < bs.length) : volB ⟨nm, bs.set k 9⟩ = false := by
  cases hv : volB ⟨nm, bs.set k 9⟩
  · rfl
  · have := ((volB_iff _).1 hv).1 9 (by rw [List.mem_iff_getElem?]; exact ⟨k, by simp [hk]⟩)
    omega
theorem volB_none (nm : ByteArray) : volB ⟨nm, []⟩ = false := by
  cases hv : volB ⟨nm, []⟩
  · rfl
  · have := ((volB_iff _).1 hv).2.2.1
    simp at this
theorem volB_E (bs : List Int) : volB ⟨⟨#[69]⟩, bs⟩ = false := by
  cases hv : volB ⟨⟨#[69]⟩, bs⟩
  · rfl
  · have := ((volB_iff _).1 hv).2.1
    exact absurd this (by show nameB (⟨#[69]⟩ : ByteArray).data.toList ≠ true; decide)

set_option maxRecDepth 100000 in
set_option maxHeartbeats 12800000 in
theorem walk (w : World) (a0 : Option Addr) (len0 cap0 : Nat) (z0 : List Int) (w0 : IsRow .u8 w a0 len0 cap0 z0) (a1 : Option Addr) (len1 cap1 : Nat) (z1 : List Int) (w1 : IsRow .u8 w a1 len1 cap1 z1) :
    Calls Try.prog 4 #[.slice a0 len0 cap0, .slice a1 len1 cap1] w fun e w' => e = .returned (.bool true) ∧ Below w.heap.size w w' := by
  obtain ⟨hr8, hlc, hc⟩ := row8 w0
  obtain ⟨_, hlc1, hc1⟩ := row8 w1
  clear w0 w1
  by_cases hbig : (1048576 : Int) < len0
  · have d1 : decide ((1048576 : Int) < len0) = true := by simpa using hbig
    go_enter Try.func4, Try.ntmps4
    go_wp2
    go_ret
    exact ⟨rfl, Below.refl _ _⟩
  have d1 : decide ((1048576 : Int) < len0) = false := by simpa using hbig
  by_cases hbig1 : (1048576 : Int) < len1
  · have d2 : decide ((1048576 : Int) < len1) = true := by simpa using hbig1
    go_enter Try.func4, Try.ntmps4
    go_wp2
    go_ret
    exact ⟨rfl, Below.refl _ _⟩
  have d2 : decide ((1048576 : Int) < len1) = false := by simpa using hbig1
  have hd := drawVolOk_any a0 len0 cap0 w hlc hc hr8
  obtain ⟨m, hm, hm9⟩ : ∃ m : Nat, (len1 : Int) % 9 = (m : Int) ∧ m < 9 := ⟨len1 % 9, by omega, by omega⟩
  clear hr8
  go_enter Try.func4, Try.ntmps4
  go_wp2_with fail
  refine hd.mono ?_
  rintro e w2 ⟨nm, g, off, n, c, bs, rfl, hnm, hg0, hg1, hx, hl, hn6, hsm, hb2⟩
  clear hd
  have HSZ := Lib.hid (show nm.size ≤ maxLen by unfold maxLen; omega)
  have HL := Lib.hid hl
  have hX2 := boxed_vol w2 nm (some ⟨g, off, none⟩) n c bs 25 (.inr ⟨g, off, rfl, hx⟩)
  have HX2 := Lib.hid hX2
  have HB2 := Lib.hid hb2
  have HG := Lib.hid hg1
  have HXX := Lib.hid hx
  clear hg0 hg1 hx hl hb2 hX2 hsm
  have H1 := Lib.hid (volOk_any nm (some ⟨g, off, none⟩) n c bs _ HSZ.out HX2.out.ints HL.out (by omega))
  cases hvb : volB ⟨nm, bs⟩
  · rw [hvb] at H1
    have HV := Lib.hid hvb
    clear hvb
    have c0 := HX2.out.c0
    have c1 := HX2.out.c1
    go_wp2_with fail
    refine H1.out.mono ?_
    rintro e w3 ⟨rfl, hb3⟩
    have hX3 := HX2.out.next hb3
    clear hb3 c0 c1
    have H2 := Lib.hid (volOkS_any nm (some ⟨g, off, none⟩) n c bs w3 HSZ.out hX3.ints HL.out (by omega))
    rw [HV.out] at H2
    have c0 := hX3.c0
    have c1 := hX3.c1
    go_wp2_with fail
    refine H2.out.mono ?_
    rintro e w4 ⟨rfl, hb4⟩
    have hX4 := hX3.next hb4
    clear hb4 hX3 c0 c1
    have H3 := Lib.hid (volOkS_any nm (some ⟨g, off, none⟩) n c bs w4 HSZ.out hX4.ints HL.out (by omega))
    rw [HV.out] at H3
    have c0 := hX4.c0
    have c1 := hX4.c1
    go_wp2_with fail
    refine H3.out.mono ?_
    rintro e w5 ⟨rfl, hb5⟩
    have hB := HB2.out.trans ((hX4.next hb5).bel.mono HB2.out.size)
    clear hb5 hX4 c0 c1
    go_wp2_with fail
    go_ret
    exact ⟨rfl, hB⟩
  · rw [hvb] at H1
    have HV := Lib.hid hvb
    obtain ⟨_, _, hn1, _⟩ := (volB_iff _).1 hvb
    have hn1' : 1 ≤ n := by have := HL.out; simp only at hn1; omega
    obtain ⟨k, hk, hkn⟩ : ∃ k : Nat, (len1 : Int) % (n : Int) = (k : Int) ∧ k < n := ⟨len1 % n, by omega, Nat.mod_lt _ (by omega)⟩
    clear hvb hn1
    have c0 := HX2.out.c0
    have c1 := HX2.out.c1
    go_wp2_with fail
    refine H1.out.mono ?_
    rintro e w3 ⟨rfl, hb3⟩
    have hX3 := HX2.out.next hb3
    clear hb3 c0 c1
    have H2 := Lib.hid (volOkS_any nm (some ⟨g, off, none⟩) n c bs w3 HSZ.out hX3.ints HL.out (by omega))
    rw [HV.out] at H2
    have c0 := hX3.c0
    have c1 := hX3.c1
    go_wp2_with fail
    refine H2.out.mono ?_
    rintro e w4 ⟨rfl, hb4⟩
    have hX4 := hX3.next hb4
    have HX4 := Lib.hid hX4
    clear hb4 hX3 c0 c1
    have c0 := hX4.c0
    have c1 := hX4.c1
    have q0 : (n : Int) ≠ 0 := by omega
    have q1 : (0 : Int) < n := by omega
    clear hX4
    go_upto_region 8 with fail
    rw [hk]
    have HFC := Lib.hid (fun W (hb : Below w4.heap.size w4 W) => (⟨(HX4.out.next hb).c0, (HX4.out.next hb).c1, hb⟩ : W.cell? ⟨w2.heap.size, 0, none⟩ = some (.string nm) ∧ W.cell? ⟨w2.heap.size, 1, none⟩ = some (.slice (some ⟨g, off, none⟩) n c) ∧ Below w4.heap.size w4 W))
    have HNEWS := Lib.hid (fun W (hb : Below w4.heap.size w4 W) => intsAt_cells (intsAt_below (intsAt_below HXX.out HX4.out.bel HG.out) hb (by have := HX4.out.bel.size; have := HG.out; omega)))
    have hbr : Below w4.heap.size w4 w4 := Below.refl _ _
    obtain ⟨i0, hi, hz0, hz1, hz2⟩ := info_parts Try.infoI
    have HCA := Lib.hid (copyA w4)
    have HCB := Lib.hid (copyB w4)
    have HOC := Lib.hid (World.ownsRow_made (base := w4.heap.size) (e := 3) (size := 1) w4 #[] 0 (Nat.le_refl _) (by unfold maxLen; omega) rfl)
    go_cut [8] from 40 to 46 (fun s8 W => ∃ b gi cap, s8 = .pointer (some ⟨b, 0, none⟩) ∧ CpB w4.heap.size b gi cap nm bs W ∧ Below w4.heap.size w4 W)
    case first =>
      go_region_held_law (fun W => W.cell? ⟨w2.heap.size, 0, none⟩ = some (.string nm) ∧ W.cell? ⟨w2.heap.size, 1, none⟩ = some (.slice (some ⟨g, off, none⟩) n c) ∧ Below w4.heap.size w4 W)
        (first | (go_split_ands; first | exact HFC.out _ (by assumption) | exact HFC.out _ (below_drew (by assumption)) | exact HFC.out _ (below_drew (hbr.alloc (Nat.le_refl _) _)) | exact HFC.out _ (below_drew ((hbr.alloc (Nat.le_refl _) _).alloc (by simp) _)) | exact HFC.out _ (Below.alloc (by assumption) (by assumption) _) | exact HFC.out _ ((HGO.out.bel.setCell HGO.out.lb _).setCell HGO.out.lb _) | exact HFC.out _ (((Below.alloc hB5 hs5 _).setCell hs5 _).setCell hs5 _)))
        (first
          | (refine step_append_lies _ (by rfl) _ _ _ (by rfl) w4.heap.size 3 i0 _ 1 8 Try.underlying23 hi hz0 hz1 hz2 rfl (by omega) _ 0 [] (by rfl) HCA.out.own.drew ⟨g, off, none⟩ n c (cellI bs) (by rfl) (by rw [cellI_len, HL.out]; omega) (HNEWS.out _ HCA.out.bel.drew) (cellI_one bs) (by omega) (by unfold maxLen; omega) (by omega) HCA.out.bel.size _ rfl ?_; intro gi cap w5 hown5 hgrow hat hlt; have hgo := HCA.out.go hgrow hat; have hB5 := hgo.bel; have e0 := hgo.c0; have e1 := hgo.c1; have f0 := hgo.f0; have f1 := hgo.f1; have HGO := Lib.hid hgo; have HOW := Lib.hid (ownBlk_of (by simpa using hown5) (by omega) HL.out); clear hown5 hgrow hat hlt hgo)
          | (refine step_append_lies _ (by rfl) _ _ _ (by rfl) w4.heap.size 3 i0 _ 1 8 Try.underlying23 hi hz0 hz1 hz2 rfl (by omega) _ 0 [] (by rfl) HCB.out.own.drew ⟨g, off, none⟩ n c (cellI bs) (by rfl) (by rw [cellI_len, HL.out]; omega) (HNEWS.out _ HCB.out.bel.drew) (cellI_one bs) (by omega) (by unfold maxLen; omega) (by omega) HCB.out.bel.size _ rfl ?_; intro gi cap w5 hown5 hgrow hat hlt; have hgo := HCB.out.go hgrow hat; have hB5 := hgo.bel; have e0 := hgo.c0; have e1 := hgo.c1; have f0 := hgo.f0; have f1 := hgo.f1; have HGO := Lib.hid hgo; have HOW := Lib.hid (ownBlk_of (by simpa using hown5) (by omega) HL.out); clear hown5 hgrow hat hlt hgo)
          | (refine step_append_lies _ (by rfl) _ _ _ (by rfl) w4.heap.size 3 i0 _ 1 8 Try.underlying23 hi hz0 hz1 hz2 rfl (by omega) _ 0 [] (by rfl) HOC.out.drew ⟨g, off, none⟩ n c (cellI bs) (by rfl) (by rw [cellI_len, HL.out]; omega) (HNEWS.out _ (below_drew (hbr.alloc (Nat.le_refl _) _))) (cellI_one bs) (by omega) (by unfold maxLen; omega) (by omega) (by simp) _ rfl ?_; intro gi cap w5 hown5 hgrow hat hlt; have hB5 := (below_drew (hbr.alloc (Nat.le_refl _) (.cells #[] 3))).grown hgrow (by simp) (fun j e => by have e2 : w4.heap.size = j := (by simpa [Value.ownBlock] using e); omega); have hs5 := hB5.size; have HOW := Lib.hid (ownBlk_of (by simpa using hown5) (by omega) HL.out); clear hown5 hgrow hat hlt))
      all_goals (go_wp2_with fail; go_meet; case rel => (first
        | exact ⟨_, _, _, rfl, cpB_made HL.out HGO.out.lb HGO.out.lt HOW.out HGO.out.ne HGO.out.c0 HGO.out.c1, (HGO.out.bel.setCell HGO.out.lb _).setCell HGO.out.lb _⟩
        | exact ⟨_, _, _, rfl, cpB_alloc HL.out hs5 HOW.out, Below.alloc hB5 hs5 _⟩))
    case rest =>
      obtain ⟨bx, gx, cx, rfl, hpx, hbx⟩ := hcut
      have p1 := hpx.c1
      rw [HL.out] at p1
      have pi := hpx.own.1 k (by rw [HL.out]; exact hkn)
      rw [Nat.zero_add] at pi
      have pf := hpx.own.2 k
      have k0 : (0 : Int) ≤ (k : Int) := by omega
      have k1 : (k : Int) < (n : Int) := by omega
      have HP := Lib.hid (hpx.blk k (by rw [HL.out]; exact hkn) m)
      have HPB := Lib.hid (hbx.setCell hpx.lg (p := ⟨gx, k, none⟩) (.int .i64 m))
      clear hpx hbx
      go_upto_region 10 with fail
      obtain ⟨w6, hw6⟩ : ∃ w6, wc.setCell ⟨gx, k, none⟩ (.int .i64 m) = w6 := ⟨_, rfl⟩
      rw [hw6] at HP HPB ⊢
      have HX6 := Lib.hid (HX4.out.next HPB.out)
      have c0 := HX6.out.c0
      have c1 := HX6.out.c1
      clear hw6 p1 pi pf
      have HFC := Lib.hid (fun W (hb : Below w6.heap.size w6 W) => (⟨(HX6.out.next hb).c0, (HX6.out.next hb).c1, hb⟩ : W.cell? ⟨w2.heap.size, 0, none⟩ = some (.string nm) ∧ W.cell? ⟨w2.heap.size, 1, none⟩ = some (.slice (some ⟨g, off, none⟩) n c) ∧ Below w6.heap.size w6 W))
      have HNEWS := Lib.hid (fun W (hb : Below w6.heap.size w6 W) => intsAt_cells (intsAt_below (intsAt_below HXX.out HX6.out.bel HG.out) hb (by have := HX6.out.bel.size; have := HG.out; omega)))
      have hbr : Below w6.heap.size w6 w6 := Below.refl _ _
      have HCA := Lib.hid (copyA w6)
      have HCB := Lib.hid (copyB w6)
      have HOC := Lib.hid (World.ownsRow_made (base := w6.heap.size) (e := 3) (size := 1) w6 #[] 0 (Nat.le_refl _) (by unfold maxLen; omega) rfl)
      go_cut [9] from 47 to 60 (fun s9 W => ∃ b gi cap, s9 = .pointer (some ⟨b, 0, none⟩) ∧ CpB w6.heap.size b gi cap nm bs W ∧ Below w6.heap.size w6 W)
      case first =>
        go_region_held_law (fun W => W.cell? ⟨w2.heap.size, 0, none⟩ = some (.string nm) ∧ W.cell? ⟨w2.heap.size, 1, none⟩ = some (.slice (some ⟨g, off, none⟩) n c) ∧ Below w6.heap.size w6 W)
          (first | (go_split_ands; first | exact HFC.out _ (by assumption) | exact HFC.out _ (below_drew (by assumption)) | exact HFC.out _ (below_drew (hbr.alloc (Nat.le_refl _) _)) | exact HFC.out _ (below_drew ((hbr.alloc (Nat.le_refl _) _).alloc (by simp) _)) | exact HFC.out _ (Below.alloc (by assumption) (by assumption) _) | exact HFC.out _ ((HGO.out.bel.setCell HGO.out.lb _).setCell HGO.out.lb _) | exact HFC.out _ (((Below.alloc hB5 hs5 _).setCell hs5 _).setCell hs5 _)))
          (first
            | (refine step_append_lies _ (by rfl) _ _ _ (by rfl) w6.heap.size 3 i0 _ 1 8 Try.underlying23 hi hz0 hz1 hz2 rfl (by omega) _ 0 [] (by rfl) HCA.out.own.drew ⟨g, off, none⟩ n c (cellI bs) (by rfl) (by rw [cellI_len, HL.out]; omega) (HNEWS.out _ HCA.out.bel.drew) (cellI_one bs) (by omega) (by unfold maxLen; omega) (by omega) HCA.out.bel.size _ rfl ?_; intro gi cap w5 hown5 hgrow hat hlt; have hgo := HCA.out.go hgrow hat; have hB5 := hgo.bel; have e0 := hgo.c0; have e1 := hgo.c1; have f0 := hgo.f0; have f1 := hgo.f1; have HGO := Lib.hid hgo; have HOW := Lib.hid (ownBlk_of (by simpa using hown5) (by omega) HL.out); clear hown5 hgrow hat hlt hgo)
            | (refine step_append_lies _ (by rfl) _ _ _ (by rfl) w6.heap.size 3 i0 _ 1 8 Try.underlying23 hi hz0 hz1 hz2 rfl (by omega) _ 0 [] (by rfl) HCB.out.own.drew ⟨g, off, none⟩ n c (cellI bs) (by rfl) (by rw [cellI_len, HL.out]; omega) (HNEWS.out _ HCB.out.bel.drew) (cellI_one bs) (by omega) (by unfold maxLen; omega) (by omega) HCB.out.bel.size _ rfl ?_; intro gi cap w5 hown5 hgrow hat hlt; have hgo := HCB.out.go hgrow hat; have hB5 := hgo.bel; have e0 := hgo.c0; have e1 := hgo.c1; have f0 := hgo.f0; have f1 := hgo.f1; have HGO := Lib.hid hgo; have HOW := Lib.hid (ownBlk_of (by simpa using hown5) (by omega) HL.out); clear hown5 hgrow hat hlt hgo)
            | (refine step_append_lies _ (by rfl) _ _ _ (by rfl) w6.heap.size 3 i0 _ 1 8 Try.underlying23 hi hz0 hz1 hz2 rfl (by omega) _ 0 [] (by rfl) HOC.out.drew ⟨g, off, none⟩ n c (cellI bs) (by rfl) (by rw [cellI_len, HL.out]; omega) (HNEWS.out _ (below_drew (hbr.alloc (Nat.le_refl _) _))) (cellI_one bs) (by omega) (by unfold maxLen; omega) (by omega) (by simp) _ rfl ?_; intro gi cap w5 hown5 hgrow hat hlt; have hB5 := (below_drew (hbr.alloc (Nat.le_refl _) (.cells #[] 3))).grown hgrow (by simp) (fun j e => by have e2 : w6.heap.size = j := (by simpa [Value.ownBlock] using e); omega); have hs5 := hB5.size; have HOW := Lib.hid (ownBlk_of (by simpa using hown5) (by omega) HL.out); clear hown5 hgrow hat hlt))
        all_goals (go_wp2_with fail; go_meet; case rel => (first
          | exact ⟨_, _, _, rfl, cpB_made HL.out HGO.out.lb HGO.out.lt HOW.out HGO.out.ne HGO.out.c0 HGO.out.c1, (HGO.out.bel.setCell HGO.out.lb _).setCell HGO.out.lb _⟩
          | exact ⟨_, _, _, rfl, cpB_alloc HL.out hs5 HOW.out, Below.alloc hB5 hs5 _⟩))
      case rest =>
        obtain ⟨b_y, gy, cy, rfl, hpy, hby⟩ := hcut
        have p1 := hpy.c1
        rw [HL.out] at p1
        have pi := hpy.own.1 k (by rw [HL.out]; exact hkn)
        rw [Nat.zero_add] at pi
        have pf := hpy.own.2 k
        have HX8 := Lib.hid (HX6.out.next (hby.setCell hpy.lg (p := ⟨gy, k, none⟩) (.int .i64 9)))
        have HPX := Lib.hid (HP.out.next (hby.setCell hpy.lg (p := ⟨gy, k, none⟩) (.int .i64 9)))
        have HPY := Lib.hid (hpy.blk k (by rw [HL.out]; exact hkn) 9)
        clear hpy hby c0 c1
        go_upto_region 12 with fail
        obtain ⟨w8, hw8⟩ : ∃ w8, wc.setCell ⟨gy, k, none⟩ (.int .i64 9) = w8 := ⟨_, rfl⟩
        rw [hw8] at HX8 HPX HPY ⊢
        have HVB := Lib.hid (HV.out)
        have HK := Lib.hid (fun W (hb : Below w8.heap.size w8 W) => (⟨(HPX.out.next hb).c0, by have := (HPX.out.next hb).c1; rw [List.length_set, HL.out] at this; exact this, (HPY.out.next hb).c0, by have := (HPY.out.next hb).c1; rw [List.length_set, HL.out] at this; exact this, (HX8.out.next hb).c0, (HX8.out.next hb).c1⟩ :
          W.cell? ⟨bx, 0, none⟩ = some (.string nm) ∧ W.cell? ⟨bx, 1, none⟩ = some (.slice (some ⟨gx, 0, none⟩) n cx) ∧ W.cell? ⟨b_y, 0, none⟩ = some (.string nm) ∧ W.cell? ⟨b_y, 1, none⟩ = some (.slice (some ⟨gy, 0, none⟩) n cy) ∧ W.cell? ⟨w2.heap.size, 0, none⟩ = some (.string nm) ∧ W.cell? ⟨w2.heap.size, 1, none⟩ = some (.slice (some ⟨g, off, none⟩) n c)))
        have HC1 := Lib.hid (fun W (hb : Below w8.heap.size w8 W) => volOk_any nm (some ⟨gx, 0, none⟩) n cx (bs.set k m) W HSZ.out (.inr ⟨gx, 0, rfl, (HPX.out.next hb).own.1⟩) (by rw [List.length_set, HL.out]) (by omega))
        have HC2 := Lib.hid (fun W (hb : Below w8.heap.size w8 W) => volOk_any nm (some ⟨gy, 0, none⟩) n cy (bs.set k 9) W HSZ.out (.inr ⟨gy, 0, rfl, (HPY.out.next hb).own.1⟩) (by rw [List.length_set, HL.out]) (by omega))
        have HC3 := Lib.hid (fun W => volOk_any nm none 0 0 [] W HSZ.out (.inl rfl) rfl (by omega))
        have HC4 := Lib.hid (fun W (hb : Below w8.heap.size w8 W) => volOk_any ⟨#[69]⟩ (some ⟨g, off, none⟩) n c bs W (by unfold maxLen; decide) (HX8.out.next hb).ints HL.out (by omega))
        have hm0 : (0 : Int) ≤ (m : Int) := by omega
        have hm8 : (m : Int) ≤ 8 := by omega
        simp only [volB_set HVB.out k m hm0 hm8] at HC1
        simp only [volB_set9 k (show k < bs.length by rw [HL.out]; exact hkn)] at HC2
        simp only [volB_none] at HC3
        simp only [volB_E] at HC4
        have HBB := Lib.hid (HB2.out.trans (HX8.out.bel.mono HB2.out.size))
        clear hw8 p1 pi pf
        obtain ⟨x0, x1, _⟩ := HK.out w8 (Below.refl _ _)
        go_wp2_with fail
        refine (HC1.out _ (Below.refl _ _)).mono ?_
        rintro e w9 ⟨rfl, hb9⟩
        clear x0 x1
        obtain ⟨_, _, y0, y1, _⟩ := HK.out w9 hb9
        go_wp2_with fail
        refine (HC2.out _ hb9).mono ?_
        rintro e w10 ⟨rfl, hb10⟩
        have hb10 := bnext hb9 hb10
        clear y0 y1 hb9
        obtain ⟨_, _, _, _, v0, v1⟩ := HK.out w10 hb10
        go_wp2_with fail
        refine (HC3.out _).mono ?_
        rintro e w11 ⟨rfl, hb11⟩
        have hb11 := bnext hb10 hb11
        clear v0 v1 hb10
        obtain ⟨_, _, _, _, v0, v1⟩ := HK.out w11 hb11
        go_wp2_with fail
        refine (HC4.out _ hb11).mono ?_
        rintro e w12 ⟨rfl, hb12⟩
        have hb12 := bnext hb11 hb12
        clear v0 v1 hb11
        obtain ⟨_, _, _, _, v0, v1⟩ := HK.out w12 hb12
        have hB := HBB.out.trans (hb12.mono HBB.out.size)
        have hn6' : (n : Int) ≤ 6 := by omega
        clear hb12
        go_wp2_with fail
        go_ret
        exact ⟨rfl, hB⟩

set_option maxRecDepth 100000 in
theorem lifted (os : Os) (started : os.Started) (H : Type) (enc : TypeId × Value → H) :
    ReturnsInHanded {} Try.checked os 4 .any (Rows.fnVolFormSpec.pre6 enc Try.prog Try.f4 Rows.fnVolFormRow.domain false) (Rows.fnVolFormSpec.post enc Try.prog Try.f4 false true false false) := by
  refine returnsInHanded_of_change (C := Try.checked) own started (by kernel_rfl) Try.func4
    (ChangeSpec.witness6 (enc := enc) (C := Try.checked) false ⟨#[], #[.slice none 0 0, .slice none 0 0], []⟩ 8 (by kernel_rfl) (by kernel_rfl) (by kernel_rfl) (by kernel_rfl)) ?_
  intro W base args ds gs before hval0 hW hcnd _
  have hval : ∀ (j : Nat) t v, Try.f4.params[j]? = some t → args[j]? = some v → Value.okWide Try.prog W .any base t v := hval0
  have hW' := hW
  obtain ⟨p, q, hA0, hV, rfl, hfz, hnd⟩ := hW
  have hA : DataW.TrodAll enc Try.prog W 0 (fun _ => true) true Try.f4.params.toList args.toList ds p := hA0
  rw [Try.params4] at hA hval
  obtain ⟨v0, vs0, d0, ds0, p0, q0, hargs, rfl, rfl, h0, r0⟩ := trodAll_cons hA
  obtain ⟨v1, vs1, d1, ds1, p1, q1, rfl, rfl, rfl, h1, r1⟩ := trodAll_cons r0
  obtain ⟨rfl, rfl, rfl⟩ := trodAll_nil r1
  obtain rfl : args = #[v0, v1] := by cases args; simp_all
  obtain ⟨rfl, rfl⟩ := trodVars_none hV
  obtain ⟨a0, len0, cap0, rfl⟩ := okWide_slice Try.underlying22 (hval 0 22 v0 rfl rfl)
  have k0 := h0
  have lt0 : ∀ x ∈ p0, x.block < W.heap.size := by obtain ⟨m, hm⟩ := k0; exact DataW.trod_lt m _ _ _ hm
  obtain ⟨z0, w0⟩ : ∃ zs, IsRow .u8 W a0 len0 cap0 zs := by
    obtain ⟨fuel, hf⟩ := h0
    rcases open_ints Try.underlying22 Try.underlying5 (by kernel_rfl) hf with ⟨hcs, _⟩ | ⟨x, l, c, zs, hcs, _, hl, hm, hz, _, hcell, hwz⟩
    · simp [Value.cells] at hcs
      obtain ⟨rfl, rfl, rfl⟩ := hcs
      exact ⟨[], .inl ⟨rfl, rfl, rfl, rfl⟩⟩
    · simp [Value.cells] at hcs
      obtain ⟨rfl, rfl, rfl⟩ := hcs
      exact ⟨zs, .inr ⟨_, rfl, hl, hm, by simpa using hz, hcell, hwz⟩⟩
  obtain ⟨a1, len1, cap1, rfl⟩ := okWide_slice Try.underlying22 (hval 1 22 v1 rfl rfl)
  have k1 := h1
  have lt1 : ∀ x ∈ p1, x.block < W.heap.size := by obtain ⟨m, hm⟩ := k1; exact DataW.trod_lt m _ _ _ hm
  obtain ⟨z1, w1⟩ : ∃ zs, IsRow .u8 W a1 len1 cap1 zs := by
    obtain ⟨fuel, hf⟩ := h1
    rcases open_ints Try.underlying22 Try.underlying5 (by kernel_rfl) hf with ⟨hcs, _⟩ | ⟨x, l, c, zs, hcs, _, hl, hm, hz, _, hcell, hwz⟩
    · simp [Value.cells] at hcs
      obtain ⟨rfl, rfl, rfl⟩ := hcs
      exact ⟨[], .inl ⟨rfl, rfl, rfl, rfl⟩⟩
    · simp [Value.cells] at hcs
      obtain ⟨rfl, rfl, rfl⟩ := hcs
      exact ⟨zs, .inr ⟨_, rfl, hl, hm, by simpa using hz, hcell, hwz⟩⟩
  clear hA0 hval0
  refine (walk W a0 len0 cap0 z0 w0 a1 len1 cap1 z1 w1).mono fun e W' ⟨he, bel⟩ => ?_
  subst he
  exact ⟨_, rfl, _, _, _, [], _, [], hW', trodAll_mk1 (shut_bool Try.underlying4 _), (trodAll_cons_mk (Below.trod laidOut (by kernel_rfl) (of_decide_eq_true (by kernel_rfl)) k0 bel lt0) (trodAll_cons_mk (Below.trod laidOut (by kernel_rfl) (of_decide_eq_true (by kernel_rfl)) k1 bel lt1) trodAll_mk0)), rfl, bel.frame _, fun h => by cases h⟩

theorem closed : joinedFacts Try.prog 4 Try.f4 Rows.fnVolFormSpec Rows.fnVolFormRow = true := by
  unfold joinedFacts
  rewrite [head_may, head_lifts, head_make]
  kernel_rfl
theorem over : Rows.fnVolFormRow.holds Try.pinned (OpenSpec.ofChange Rows.fnVolFormSpec) :=
  OpenClaim.holds_of_wide 4 Try.f4 rfl rfl rfl rfl rfl rfl rfl ⟨rfl, rfl, rfl, rfl, rfl⟩ rfl rfl rfl rfl rfl (by kernel_rfl) Try.func4 closed
    (of_decide_eq_true (by kernel_rfl)) (by unfold Func.isWrapper; first | (rw [if_pos (by decide +kernel)]; kernel_rfl) | (rw [if_neg (by decide +kernel)]; exact ⟨rfl, rfl⟩))
    (fun os started H enc _ => lifted os started H enc)

theorem proved : Rows.FnVolFormSaid := over
#print axioms proved
end Go.Proofs.Ytgogokahpmljbaa.fnVolForm
