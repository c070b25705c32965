/- For every code the law FnDropUses returns true and leaves the code as it was. No condition. -/
import Derived.Test.YtgajhknljnhfmaaRows
import Derived.WalkKit
import Derived.ProofKit
import Derived.OpenShut
import Derived.ShutString
import Derived.ChangeOld
import Derived.Below
import Derived.Test.YtgajhknljnhfmaaHead
import Derived.Test.YtgajhknljnhfmaaStoreMath2
import Derived.Deep.RegionHeld3
import Derived.IntWalk
namespace Go.Proofs.Ytgajhknljnhfmaa.fnDropUses
open Go.ChangeShapes Go.WideShapes Go.ChangeAt Go.RowKit
open Go.ChangeMaps (open_string shut_string)
set_option linter.unusedVariables false

theorem own : ownKnob Try.prog.godebug = none := by kernel_rfl
theorem laidOut : laidOutB Try.prog = true := by kernel_rfl

def IsRow (k : IntKind) (w : World) (a : Option Addr) (len cap : Nat) (zs : List Int) : Prop :=
  (a = none ∧ len = 0 ∧ cap = 0 ∧ zs = []) ∨
  ∃ x, a = some x ∧ len ≤ cap ∧ cap ≤ maxLen ∧ zs.length = cap ∧ (∀ i, i < zs.length → w.cell? (x.add i) = some (.int k (zs.getD i 0))) ∧ ∀ n ∈ zs, (Lit.int k n).wf = true

set_option maxRecDepth 100000 in
set_option maxHeartbeats 800000 in
theorem walk (w : World) (a0 : Option Addr) (len0 cap0 : Nat) (z0 : List Int) (w0 : IsRow .u8 w a0 len0 cap0 z0) :
    Calls Try.prog 7 #[.slice a0 len0 cap0] w fun e w' => e = .returned (.bool true) ∧ Below w.heap.size w w' := by
  obtain ⟨hr8, hlc, hc⟩ := row8 w0
  clear w0
  by_cases hbig : (1048576 : Int) < len0
  · go_enter Try.func7, Try.ntmps7
    go_wp2
    go_ret
    exact ⟨rfl, Below.refl _ _⟩
  have hd := drawStoreDrop_any a0 len0 cap0 w hlc hc hr8
  clear hr8
  go_enter Try.func7, Try.ntmps7
  go_wp2_with fail
  refine hd.mono ?_
  rintro e w1 ⟨g, off, n, c, xs, p, rfl, hp0, hp9, hdr⟩
  clear hd
  have HF := Lib.hid hdr.bnd.fits
  have HBN := Lib.hid hdr.bnd
  have HL := Lib.hid hdr.len
  have hn8 := hdr.hi
  obtain ⟨R, hR⟩ : ∃ R, dropB xs p = R := ⟨_, rfl⟩
  have HRL : Hid (R.1.length ≤ 2000000) := Lib.hid (by rw [← hR]; exact Nat.le_trans (dropB_len xs p) (by rw [HL.out]; omega))
  go_wp2_with fail
  refine (storeDropS_v _ xs p w1 hdr.slv HF.out).mono ?_
  rw [hR]
  rintro e w2 ⟨vw, rfl, hvw, hb2⟩
  have hdr2 := hdr.next hb2
  have how := hvw.own
  have es2 : w1.heap.size ≤ w2.heap.size := hb2.size
  clear hdr hb2 hvw
  go_wp2_with fail
  refine (storeDrop_v _ xs p w2 hdr2.slv HF.out).mono ?_
  rw [hR]
  rintro e w3 ⟨vx, rfl, hvx, hb3⟩
  have hdr3 := hdr2.next hb3
  have how3 := how.next hb3 (Nat.le_refl _)
  have es3 : w2.heap.size ≤ w3.heap.size := hb3.size
  clear hdr2 hb3 how
  have HLG := Lib.hid (lgSlots_same vx vw R.1 w3 (hvx.slv HRL.out) (how3.slv HRL.out))
  cases hsb : storeB xs
  · have hz : dropB xs p = ([], false) := by unfold dropB dropOk; rw [hsb]; simp
    rw [hR] at hz
    subst hz
    clear hR
    go_wp2_with fail
    refine HLG.out.mono ?_
    rintro e w4 ⟨rfl, hb4⟩
    have hdr4 := hdr3.next hb4
    have how4 := how3.next hb4 (by omega)
    have hvx4 := hvx.below hb4 (Nat.le_refl _)
    have es4 : w3.heap.size ≤ w4.heap.size := hb4.size
    clear hdr3 how3 hb4 hvx
    have HS := Lib.hid (storeOkS_v _ xs w4 hdr4.slv HF.out)
    rw [hsb] at HS
    clear hsb
    go_wp2_with fail
    refine HS.out.mono ?_
    rintro e w5 ⟨rfl, hb5⟩
    have hdr5 := hdr4.next hb5
    have HQ := Lib.hid (lgSlots_same vx vw [] w5 ((hvx4.below hb5 (Nat.le_refl _)).slv (by simp)) ((how4.next hb5 (by omega)).slv (by simp)))
    clear hb5 hdr4 how4 hvx4
    go_wp2_with fail
    refine HQ.out.mono ?_
    rintro e w6 ⟨rfl, hb6⟩
    have hB := (hdr5.next hb6).bel
    clear hb6 hdr5
    go_wp2_with fail
    go_ret
    exact ⟨rfl, hB⟩
  by_cases hp : 1 ≤ p ∧ p ≤ 8
  · obtain ⟨hp1, hp8⟩ := hp
    have HSB := Lib.hid hsb
    obtain ⟨j, hj, hpj, hcs⟩ := drop_cases xs p hsb hp1 hp8
    obtain rfl : n = 8 := by have := HL.out; have := storeB_len hsb; omega
    clear hsb
    rcases hcs with ⟨hz, hu0⟩ | ⟨hz, hu1, hso⟩
    · rw [hR] at hz
      subst hz
      clear hR
      go_wp2_with fail
      refine HLG.out.mono ?_
      rintro e w4 ⟨rfl, hb4⟩
      have hdr4 := hdr3.next hb4
      clear hdr3 how3 hb4 hvx
      have HS := Lib.hid (storeOkS_v _ xs w4 hdr4.slv HF.out)
      rw [HSB.out] at HS
      go_wp2_with fail
      refine HS.out.mono ?_
      rintro e w5 ⟨rfl, hb5⟩
      have hdr5 := hdr4.next hb5
      have hB := hdr5.bel
      obtain ⟨hct, hcu⟩ := hdr5.sl.1 j (by rw [HL.out]; exact hj)
      rw [hu0] at hcu
      clear hb5 hdr4 hdr5 hu0
      subst hpj
      go_wp2_with fail
      go_ret
      exact ⟨rfl, hB⟩
    · rw [hR] at hz
      subst hz
      clear hR
      simp only at HRL hvx how3
      have hl8 : (dropS xs j).length = 8 := by rw [dropS_len]; exact HL.out
      have HBT : Hid (butTo (dropS xs j) xs ((j : Int) + 1) 8 = true) := Lib.hid (by unfold dropS; exact butTo_set xs j _ (by rw [HL.out]; exact hj) 8)
      have HFZ : Hid (Fits (dropS xs j)) := Lib.hid (by
        intro i hi
        rw [dropS_len] at hi
        unfold dropS
        rw [nth_set _ _ _ _ (by rw [HL.out]; exact hj)]
        have h1 := HF.out i hi
        have h2 := HF.out j (by rw [HL.out]; exact hj)
        split
        · split
          · exact Nat.zero_le _
          · exact h2
        · exact h1)
      have hzj : nth (dropS xs j) j = if (nth xs j).uses - 1 = 0 then ⟨⟨#[]⟩, (nth xs j).uses - 1⟩ else ⟨(nth xs j).text, (nth xs j).uses - 1⟩ := by
        unfold dropS
        rw [nth_set _ _ _ _ (by rw [HL.out]; exact hj), if_pos rfl]
      have hrg := okB_range (storeB_ok HSB.out j hj)
      have hem := okB_empty (storeB_ok HSB.out j hj)
      have HSO := Lib.hid hso
      obtain ⟨zs, hzs⟩ : ∃ zs, dropS xs j = zs := ⟨_, rfl⟩
      rw [hzs] at HRL hvx how3 hl8 HBT HFZ hzj HSO
      clear hso hzs
      obtain ⟨g2, cap2, rfl, hg2, hg2s, hcap2, hsl2⟩ := hvx.some8 hl8
      have HL8 := Lib.hid hl8
      clear hl8
      go_wp2_with fail
      refine HLG.out.mono ?_
      rintro e w4 ⟨rfl, hb4⟩
      have hdr4 := hdr3.next hb4
      have hvx4 := hvx.below hb4 (Nat.le_refl _)
      have hs24 := hsl2.1.below hb4 hg2s
      have es4 : w3.heap.size ≤ w4.heap.size := hb4.size
      clear hdr3 how3 hb4 hvx hsl2
      have HS := Lib.hid (storeOkS_v _ xs w4 hdr4.slv HF.out)
      rw [HSB.out] at HS
      go_wp2_with fail
      refine HS.out.mono ?_
      rintro e w5 ⟨rfl, hb5⟩
      have hdr5 := hdr4.next hb5
      have hvx5 := hvx4.below hb5 (by omega)
      have hs25 := hs24.below hb5 (by omega)
      have es5 : w4.heap.size ≤ w5.heap.size := hb5.size
      have hB := hdr5.bel
      obtain ⟨hct, hcu⟩ := hdr5.sl.1 j (by rw [HL.out]; exact hj)
      obtain ⟨hxt, hxu⟩ := hs25 j (by rw [HL8.out]; exact hj)
      rw [hzj] at hxt hxu
      have HK := Lib.hid (fun W (hb : Below w5.heap.size w5 W) => (hs25.below hb (by omega)) j (by rw [HL8.out]; exact hj))
      have HK2 := Lib.hid (fun W (hb : Below w5.heap.size w5 W) => (hdr5.next hb).sl.1 j (by rw [HL.out]; exact hj))
      have HB := Lib.hid (fun W (hb : Below w5.heap.size w5 W) => lgBut_some g2 0 g off 8 cap2 c ((j : Int) + 1) zs xs W (hs25.below hb (by omega)) (hdr5.next hb).sl.1 HL8.out HL.out (by omega) (by omega) (by omega))
      rw [HBT.out] at HB
      have HO := Lib.hid (fun W (hb : Below w5.heap.size w5 W) => storeOk_v _ zs W ((hvx5.below hb (by omega)).slv HRL.out) HFZ.out)
      rw [HSO.out] at HO
      rw [hzj] at HK
      simp only [Nat.zero_add] at HK hxt hxu
      clear hb5 hdr4 hvx4 hs24 hs25 hvx5
      obtain ⟨y, hy⟩ : ∃ y, nth xs j = y := ⟨_, rfl⟩
      rw [hy] at hct hcu hxt hxu hu1 hrg hem HK HK2
      clear hy hzj
      obtain ⟨t, u⟩ := y
      simp only at hct hcu hxt hxu hu1 hrg hem HK HK2
      subst hpj
      have hB6 := Lib.hid (fun W (hb : Below w5.heap.size w5 W) => (hdr5.next hb).bel)
      clear hdr5 hB
      have hbr : Below w5.heap.size w5 w5 := Below.refl _ _
      have q1 : IntKind.i64.wrap ((j : Int) + 1 - 1) = (j : Int) := by rw [IntWalk.i64_in _ (by omega)]; omega
      have q3 : IntKind.i64.wrap (j : Int) = (j : Int) := IntWalk.i64_in _ (by omega)
      have q4 : (0 : Int) ≤ (j : Int) := by omega
      have q5 : (j : Int) < 8 := by omega
      have q6 : ¬ (j : Int) < 0 := by omega
      have q7 : ¬ (8 : Int) ≤ (j : Int) := by omega
      have q2 : IntKind.i64.wrap (u - 1) = u - 1 := IntWalk.i64_in _ (by omega)
      by_cases h1 : u - 1 = 0
      · rw [if_pos h1] at hxt hxu HK
        simp only [h1] at hxt hxu HK
        obtain rfl : u = 1 := by omega
        clear h1 hem
        go_wp2_with fail
        have HKS := Lib.hid (fun W (hb : Below w5.heap.size w5 W) => (⟨(HK2.out W hb).1, (HK2.out W hb).2, (HK.out W hb).1, (HK.out W hb).2, hb⟩ : W.cell? ⟨g, off + j * 2, none⟩ = some (.string t) ∧ W.cell? ⟨g, off + j * 2 + 1, none⟩ = some (.int .i64 1) ∧ W.cell? ⟨g2, j * 2, none⟩ = some (.string ⟨#[]⟩) ∧ W.cell? ⟨g2, j * 2 + 1, none⟩ = some (.int .i64 0) ∧ Below w5.heap.size w5 W))
        refine wp_region_noPanic ?_
        refine wp_region_held_drew (S := (fun W => W.cell? ⟨g, off + j * 2, none⟩ = some (.string t) ∧ W.cell? ⟨g, off + j * 2 + 1, none⟩ = some (.int .i64 1) ∧ W.cell? ⟨g2, j * 2, none⟩ = some (.string ⟨#[]⟩) ∧ W.cell? ⟨g2, j * 2 + 1, none⟩ = some (.int .i64 0) ∧ Below w5.heap.size w5 W)) (by kernel_rfl) (HKS.out _ (below_drew hbr)) (fun hHeld => ?_)
        refine' wpAnyH_take (i := 0) rfl ?cl0 ?dl0 ?el0 (fun _ _ _ h => h) (Or.inl ⟨?hl0, ?yl0⟩) hHeld ?rl0; (case hl0 => kernel_rfl); (case cl0 => kernel_rfl); (case dl0 => kernel_rfl); (case el0 => kernel_rfl); (case yl0 => (intro w hSw; (try dsimp only at hSw); simp only [List.getElem_toArray, List.getElem_cons_zero]; go_simp; try with_reducible rfl)); simp only [List.getElem_toArray, List.getElem_cons_zero, Act.put, List.setIfInBounds_toArray, List.set_cons_zero, List.set_cons_succ]
        refine' wpAnyH_take (i := 1) rfl ?cl1 ?dl1 ?el1 (fun _ _ _ h => h) (Or.inl ⟨?hl1, ?yl1⟩) hHeld ?rl1; (case hl1 => kernel_rfl); (case cl1 => kernel_rfl); (case dl1 => kernel_rfl); (case el1 => kernel_rfl); (case yl1 => (intro w hSw; (try dsimp only at hSw); simp only [List.getElem_toArray, List.getElem_cons_succ, List.getElem_cons_zero]; go_simp; try with_reducible rfl)); simp only [List.getElem_toArray, List.getElem_cons_succ, List.getElem_cons_zero, Act.put, List.setIfInBounds_toArray, List.set_cons_zero, List.set_cons_succ]
        refine' wpAnyH_take (i := 2) rfl ?cl2 ?dl2 ?el2 (fun _ _ _ h => h) (Or.inl ⟨?hl2, ?yl2⟩) hHeld ?rl2; (case hl2 => kernel_rfl); (case cl2 => kernel_rfl); (case dl2 => kernel_rfl); (case el2 => kernel_rfl); (case yl2 => (intro w hSw; (try dsimp only at hSw); simp only [List.getElem_toArray, List.getElem_cons_succ, List.getElem_cons_zero]; go_simp; try with_reducible rfl)); simp only [List.getElem_toArray, List.getElem_cons_succ, List.getElem_cons_zero, Act.put, List.setIfInBounds_toArray, List.set_cons_zero, List.set_cons_succ]
        refine' wpAnyH_take (i := 3) rfl ?cl3 ?dl3 ?el3 (fun _ _ _ h => h) (Or.inl ⟨?hl3, ?yl3⟩) hHeld ?rl3; (case hl3 => kernel_rfl); (case cl3 => kernel_rfl); (case dl3 => kernel_rfl); (case el3 => kernel_rfl); (case yl3 => (intro w hSw; (try dsimp only at hSw); simp only [List.getElem_toArray, List.getElem_cons_succ, List.getElem_cons_zero]; go_simp; try with_reducible rfl)); simp only [List.getElem_toArray, List.getElem_cons_succ, List.getElem_cons_zero, Act.put, List.setIfInBounds_toArray, List.set_cons_zero, List.set_cons_succ]
        refine' wpAnyH_take (i := 4) rfl ?cl4 ?dl4 ?el4 (fun _ _ _ h => h) (Or.inl ⟨?hl4, ?yl4⟩) hHeld ?rl4; (case hl4 => kernel_rfl); (case cl4 => kernel_rfl); (case dl4 => kernel_rfl); (case el4 => kernel_rfl); (case yl4 => (intro w hSw; (try dsimp only at hSw); simp only [List.getElem_toArray, List.getElem_cons_succ, List.getElem_cons_zero]; go_simp; try with_reducible rfl)); simp only [List.getElem_toArray, List.getElem_cons_succ, List.getElem_cons_zero, Act.put, List.setIfInBounds_toArray, List.set_cons_zero, List.set_cons_succ]
        refine' wpAnyH_take (i := 5) rfl ?cl5 ?dl5 ?el5 (fun _ _ _ h => h) (Or.inl ⟨?hl5, ?yl5⟩) hHeld ?rl5; (case hl5 => kernel_rfl); (case cl5 => kernel_rfl); (case dl5 => kernel_rfl); (case el5 => kernel_rfl); (case yl5 => (intro w hSw; (try dsimp only at hSw); simp only [List.getElem_toArray, List.getElem_cons_succ, List.getElem_cons_zero]; go_simp; try with_reducible rfl)); simp only [List.getElem_toArray, List.getElem_cons_succ, List.getElem_cons_zero, Act.put, List.setIfInBounds_toArray, List.set_cons_zero, List.set_cons_succ]
        refine' wpAnyH_take (i := 6) rfl ?cl6 ?dl6 ?el6 (fun _ _ _ h => h) (Or.inl ⟨?hl6, ?yl6⟩) hHeld ?rl6; (case hl6 => kernel_rfl); (case cl6 => kernel_rfl); (case dl6 => kernel_rfl); (case el6 => kernel_rfl); (case yl6 => (intro w hSw; (try dsimp only at hSw); simp only [List.getElem_toArray, List.getElem_cons_succ, List.getElem_cons_zero]; go_simp; try with_reducible rfl)); simp only [List.getElem_toArray, List.getElem_cons_succ, List.getElem_cons_zero, Act.put, List.setIfInBounds_toArray, List.set_cons_zero, List.set_cons_succ]
        refine' wpAnyH_take (i := 7) rfl ?cl7 ?dl7 ?el7 (fun _ _ _ h => h) (Or.inl ⟨?hl7, ?yl7⟩) hHeld ?rl7; (case hl7 => kernel_rfl); (case cl7 => kernel_rfl); (case dl7 => kernel_rfl); (case el7 => kernel_rfl); (case yl7 => (intro w hSw; (try dsimp only at hSw); simp only [List.getElem_toArray, List.getElem_cons_succ, List.getElem_cons_zero]; go_simp; try with_reducible rfl)); simp only [List.getElem_toArray, List.getElem_cons_succ, List.getElem_cons_zero, Act.put, List.setIfInBounds_toArray, List.set_cons_zero, List.set_cons_succ]
        refine' wpAnyH_take (i := 8) rfl ?cl8 ?dl8 ?el8 (fun _ _ _ h => h) (Or.inl ⟨?hl8, ?yl8⟩) hHeld ?rl8; (case hl8 => kernel_rfl); (case cl8 => kernel_rfl); (case dl8 => kernel_rfl); (case el8 => kernel_rfl); (case yl8 => (intro w hSw; (try dsimp only at hSw); simp only [List.getElem_toArray, List.getElem_cons_succ, List.getElem_cons_zero]; go_simp; try with_reducible rfl)); simp only [List.getElem_toArray, List.getElem_cons_succ, List.getElem_cons_zero, Act.put, List.setIfInBounds_toArray, List.set_cons_zero, List.set_cons_succ]
        refine' wpAnyH_take (i := 9) rfl ?cl9 ?dl9 ?el9 (fun _ _ _ h => h) (Or.inl ⟨?hl9, ?yl9⟩) hHeld ?rl9; (case hl9 => kernel_rfl); (case cl9 => kernel_rfl); (case dl9 => kernel_rfl); (case el9 => kernel_rfl); (case yl9 => (intro w hSw; (try dsimp only at hSw); simp only [List.getElem_toArray, List.getElem_cons_succ, List.getElem_cons_zero]; go_simp; try with_reducible rfl)); simp only [List.getElem_toArray, List.getElem_cons_succ, List.getElem_cons_zero, Act.put, List.setIfInBounds_toArray, List.set_cons_zero, List.set_cons_succ]
        refine' wpAnyH_take (i := 10) rfl ?cl10 ?dl10 ?el10 (fun _ _ _ h => h) (Or.inl ⟨?hl10, ?yl10⟩) hHeld ?rl10; (case hl10 => kernel_rfl); (case cl10 => kernel_rfl); (case dl10 => kernel_rfl); (case el10 => kernel_rfl); (case yl10 => (intro w hSw; (try dsimp only at hSw); simp only [List.getElem_toArray, List.getElem_cons_succ, List.getElem_cons_zero]; go_simp; try with_reducible rfl)); simp only [List.getElem_toArray, List.getElem_cons_succ, List.getElem_cons_zero, Act.put, List.setIfInBounds_toArray, List.set_cons_zero, List.set_cons_succ]
        refine' wpAnyH_take (i := 11) rfl ?cl11 ?dl11 ?el11 (fun _ _ _ h => h) (Or.inl ⟨?hl11, ?yl11⟩) hHeld ?rl11; (case hl11 => kernel_rfl); (case cl11 => kernel_rfl); (case dl11 => kernel_rfl); (case el11 => kernel_rfl); (case yl11 => (intro w hSw; (try dsimp only at hSw); simp only [List.getElem_toArray, List.getElem_cons_succ, List.getElem_cons_zero]; go_simp; try with_reducible rfl)); simp only [List.getElem_toArray, List.getElem_cons_succ, List.getElem_cons_zero, Act.put, List.setIfInBounds_toArray, List.set_cons_zero, List.set_cons_succ]
        refine' wpAnyH_take (i := 12) rfl ?cl12 ?dl12 ?el12 (fun _ _ _ h => h) (Or.inl ⟨?hl12, ?yl12⟩) hHeld ?rl12; (case hl12 => kernel_rfl); (case cl12 => kernel_rfl); (case dl12 => kernel_rfl); (case el12 => kernel_rfl); (case yl12 => (intro w hSw; (try dsimp only at hSw); simp only [List.getElem_toArray, List.getElem_cons_succ, List.getElem_cons_zero]; go_simp; try with_reducible rfl)); simp only [List.getElem_toArray, List.getElem_cons_succ, List.getElem_cons_zero, Act.put, List.setIfInBounds_toArray, List.set_cons_zero, List.set_cons_succ]
        refine' wpAnyH_take (i := 13) rfl ?cl13 ?dl13 ?el13 (fun _ _ _ h => h) (Or.inl ⟨?hl13, ?yl13⟩) hHeld ?rl13; (case hl13 => kernel_rfl); (case cl13 => kernel_rfl); (case dl13 => kernel_rfl); (case el13 => kernel_rfl); (case yl13 => (intro w hSw; (try dsimp only at hSw); simp only [List.getElem_toArray, List.getElem_cons_succ, List.getElem_cons_zero]; go_simp; try with_reducible rfl)); simp only [List.getElem_toArray, List.getElem_cons_succ, List.getElem_cons_zero, Act.put, List.setIfInBounds_toArray, List.set_cons_zero, List.set_cons_succ]
        refine' wpAnyH_take (i := 14) rfl ?cl14 ?dl14 ?el14 (fun _ _ _ h => h) (Or.inl ⟨?hl14, ?yl14⟩) hHeld ?rl14; (case hl14 => kernel_rfl); (case cl14 => kernel_rfl); (case dl14 => kernel_rfl); (case el14 => kernel_rfl); (case yl14 => (intro w hSw; (try dsimp only at hSw); simp only [List.getElem_toArray, List.getElem_cons_succ, List.getElem_cons_zero]; go_simp; try with_reducible rfl)); simp only [List.getElem_toArray, List.getElem_cons_succ, List.getElem_cons_zero, Act.put, List.setIfInBounds_toArray, List.set_cons_zero, List.set_cons_succ]
        refine' wpAnyH_take (i := 15) rfl ?cl15 ?dl15 ?el15 (fun _ _ _ h => h) (Or.inl ⟨?hl15, ?yl15⟩) hHeld ?rl15; (case hl15 => kernel_rfl); (case cl15 => kernel_rfl); (case dl15 => kernel_rfl); (case el15 => kernel_rfl); (case yl15 => (intro w hSw; (try dsimp only at hSw); simp only [List.getElem_toArray, List.getElem_cons_succ, List.getElem_cons_zero]; go_simp; try with_reducible rfl)); simp only [List.getElem_toArray, List.getElem_cons_succ, List.getElem_cons_zero, Act.put, List.setIfInBounds_toArray, List.set_cons_zero, List.set_cons_succ]
        refine' wpAnyH_take (i := 16) rfl ?cl16 ?dl16 ?el16 (fun _ _ _ h => h) (Or.inl ⟨?hl16, ?yl16⟩) hHeld ?rl16; (case hl16 => kernel_rfl); (case cl16 => kernel_rfl); (case dl16 => kernel_rfl); (case el16 => kernel_rfl); (case yl16 => (intro w hSw; (try dsimp only at hSw); simp only [List.getElem_toArray, List.getElem_cons_succ, List.getElem_cons_zero]; go_simp; try with_reducible rfl)); simp only [List.getElem_toArray, List.getElem_cons_succ, List.getElem_cons_zero, Act.put, List.setIfInBounds_toArray, List.set_cons_zero, List.set_cons_succ]
        refine' wpAnyH_take (i := 17) rfl ?cl17 ?dl17 ?el17 (fun _ _ _ h => h) (Or.inl ⟨?hl17, ?yl17⟩) hHeld ?rl17; (case hl17 => kernel_rfl); (case cl17 => kernel_rfl); (case dl17 => kernel_rfl); (case el17 => kernel_rfl); (case yl17 => (intro w hSw; (try dsimp only at hSw); simp only [List.getElem_toArray, List.getElem_cons_succ, List.getElem_cons_zero]; go_simp; try with_reducible rfl)); simp only [List.getElem_toArray, List.getElem_cons_succ, List.getElem_cons_zero, Act.put, List.setIfInBounds_toArray, List.set_cons_zero, List.set_cons_succ]
        refine' wpAnyH_take (i := 18) rfl ?cl18 ?dl18 ?el18 (fun _ _ _ h => h) (Or.inl ⟨?hl18, ?yl18⟩) hHeld ?rl18; (case hl18 => kernel_rfl); (case cl18 => kernel_rfl); (case dl18 => kernel_rfl); (case el18 => kernel_rfl); (case yl18 => (intro w hSw; (try dsimp only at hSw); simp only [List.getElem_toArray, List.getElem_cons_succ, List.getElem_cons_zero]; go_simp; try with_reducible rfl)); simp only [List.getElem_toArray, List.getElem_cons_succ, List.getElem_cons_zero, Act.put, List.setIfInBounds_toArray, List.set_cons_zero, List.set_cons_succ]
        refine' wpAnyH_take (i := 19) rfl ?cl19 ?dl19 ?el19 (fun _ _ _ h => h) (Or.inl ⟨?hl19, ?yl19⟩) hHeld ?rl19; (case hl19 => kernel_rfl); (case cl19 => kernel_rfl); (case dl19 => kernel_rfl); (case el19 => kernel_rfl); (case yl19 => (intro w hSw; (try dsimp only at hSw); simp only [List.getElem_toArray, List.getElem_cons_succ, List.getElem_cons_zero]; go_simp; try with_reducible rfl)); simp only [List.getElem_toArray, List.getElem_cons_succ, List.getElem_cons_zero, Act.put, List.setIfInBounds_toArray, List.set_cons_zero, List.set_cons_succ]
        refine' wpAnyH_take (i := 20) rfl ?cl20 ?dl20 ?el20 (fun _ _ _ h => h) (Or.inl ⟨?hl20, ?yl20⟩) hHeld ?rl20; (case hl20 => kernel_rfl); (case cl20 => kernel_rfl); (case dl20 => kernel_rfl); (case el20 => kernel_rfl); (case yl20 => (intro w hSw; (try dsimp only at hSw); simp only [List.getElem_toArray, List.getElem_cons_succ, List.getElem_cons_zero]; go_simp; try with_reducible rfl)); simp only [List.getElem_toArray, List.getElem_cons_succ, List.getElem_cons_zero, Act.put, List.setIfInBounds_toArray, List.set_cons_zero, List.set_cons_succ]
        refine' wpAnyH_take (i := 21) rfl ?cl21 ?dl21 ?el21 (fun _ _ _ h => h) (Or.inl ⟨?hl21, ?yl21⟩) hHeld ?rl21; (case hl21 => kernel_rfl); (case cl21 => kernel_rfl); (case dl21 => kernel_rfl); (case el21 => kernel_rfl); (case yl21 => (intro w hSw; (try dsimp only at hSw); simp only [List.getElem_toArray, List.getElem_cons_succ, List.getElem_cons_zero]; go_simp; try with_reducible rfl)); simp only [List.getElem_toArray, List.getElem_cons_succ, List.getElem_cons_zero, Act.put, List.setIfInBounds_toArray, List.set_cons_zero, List.set_cons_succ]
        refine' wpAnyH_take (i := 22) rfl ?cl22 ?dl22 ?el22 (fun _ _ _ h => h) (Or.inl ⟨?hl22, ?yl22⟩) hHeld ?rl22; (case hl22 => kernel_rfl); (case cl22 => kernel_rfl); (case dl22 => kernel_rfl); (case el22 => kernel_rfl); (case yl22 => (intro w hSw; (try dsimp only at hSw); simp only [List.getElem_toArray, List.getElem_cons_succ, List.getElem_cons_zero]; go_simp; try with_reducible rfl)); simp only [List.getElem_toArray, List.getElem_cons_succ, List.getElem_cons_zero, Act.put, List.setIfInBounds_toArray, List.set_cons_zero, List.set_cons_succ]
        refine' wpAnyH_take (i := 23) rfl ?cl23 ?dl23 ?el23 (fun _ _ _ h => h) (Or.inl ⟨?hl23, ?yl23⟩) hHeld ?rl23; (case hl23 => kernel_rfl); (case cl23 => kernel_rfl); (case dl23 => kernel_rfl); (case el23 => kernel_rfl); (case yl23 => (intro w hSw; (try dsimp only at hSw); simp only [List.getElem_toArray, List.getElem_cons_succ, List.getElem_cons_zero]; go_simp; try with_reducible rfl)); simp only [List.getElem_toArray, List.getElem_cons_succ, List.getElem_cons_zero, Act.put, List.setIfInBounds_toArray, List.set_cons_zero, List.set_cons_succ]
        refine' wpAnyH_take (i := 24) rfl ?cd24 ?dd24 ?ed24 (fun _ _ _ h => h) (Or.inr ⟨?hd24, ?yd24⟩) hHeld ?rd24; (case hd24 => kernel_rfl); (case cd24 => kernel_rfl); (case dd24 => kernel_rfl); (case ed24 => kernel_rfl); (case yd24 => rfl); simp only [List.getElem_toArray, List.getElem_cons_succ, List.getElem_cons_zero, Act.put, List.setIfInBounds_toArray, List.set_cons_zero, List.set_cons_succ]
        refine' wpAnyH_take (i := 25) rfl ?cd25 ?dd25 ?ed25 (fun _ _ _ h => h) (Or.inr ⟨?hd25, ?yd25⟩) hHeld ?rd25; (case hd25 => kernel_rfl); (case cd25 => kernel_rfl); (case dd25 => kernel_rfl); (case ed25 => kernel_rfl); (case yd25 => rfl); simp only [List.getElem_toArray, List.getElem_cons_succ, List.getElem_cons_zero, Act.put, List.setIfInBounds_toArray, List.set_cons_zero, List.set_cons_succ]
        refine' wpAnyH_take (i := 26) rfl ?cd26 ?dd26 ?ed26 (fun _ _ _ h => h) (Or.inr ⟨?hd26, ?yd26⟩) hHeld ?rd26; (case hd26 => kernel_rfl); (case cd26 => kernel_rfl); (case dd26 => kernel_rfl); (case ed26 => kernel_rfl); (case yd26 => rfl); simp only [List.getElem_toArray, List.getElem_cons_succ, List.getElem_cons_zero, Act.put, List.setIfInBounds_toArray, List.set_cons_zero, List.set_cons_succ]
        refine' wpAnyH_take (i := 27) rfl ?cd27 ?dd27 ?ed27 (fun _ _ _ h => h) (Or.inr ⟨?hd27, ?yd27⟩) hHeld ?rd27; (case hd27 => kernel_rfl); (case cd27 => kernel_rfl); (case dd27 => kernel_rfl); (case ed27 => kernel_rfl); (case yd27 => rfl); simp only [List.getElem_toArray, List.getElem_cons_succ, List.getElem_cons_zero, Act.put, List.setIfInBounds_toArray, List.set_cons_zero, List.set_cons_succ]
        refine' wpAnyH_take (i := 28) rfl ?cd28 ?dd28 ?ed28 (fun _ _ _ h => h) (Or.inr ⟨?hd28, ?yd28⟩) hHeld ?rd28; (case hd28 => kernel_rfl); (case cd28 => kernel_rfl); (case dd28 => kernel_rfl); (case ed28 => kernel_rfl); (case yd28 => rfl); simp only [List.getElem_toArray, List.getElem_cons_succ, List.getElem_cons_zero, Act.put, List.setIfInBounds_toArray, List.set_cons_zero, List.set_cons_succ]
        refine' wpAnyH_take (i := 29) rfl ?cd29 ?dd29 ?ed29 (fun _ _ _ h => h) (Or.inr ⟨?hd29, ?yd29⟩) hHeld ?rd29; (case hd29 => kernel_rfl); (case cd29 => kernel_rfl); (case dd29 => kernel_rfl); (case ed29 => kernel_rfl); (case yd29 => rfl); simp only [List.getElem_toArray, List.getElem_cons_succ, List.getElem_cons_zero, Act.put, List.setIfInBounds_toArray, List.set_cons_zero, List.set_cons_succ]
        refine' wpAnyH_take (i := 30) rfl ?cd30 ?dd30 ?ed30 (fun _ _ _ h => h) (Or.inr ⟨?hd30, ?yd30⟩) hHeld ?rd30; (case hd30 => kernel_rfl); (case cd30 => kernel_rfl); (case dd30 => kernel_rfl); (case ed30 => kernel_rfl); (case yd30 => rfl); simp only [List.getElem_toArray, List.getElem_cons_succ, List.getElem_cons_zero, Act.put, List.setIfInBounds_toArray, List.set_cons_zero, List.set_cons_succ]
        refine' wpAnyH_take (i := 31) rfl ?cd31 ?dd31 ?ed31 (fun _ _ _ h => h) (Or.inr ⟨?hd31, ?yd31⟩) hHeld ?rd31; (case hd31 => kernel_rfl); (case cd31 => kernel_rfl); (case dd31 => kernel_rfl); (case ed31 => kernel_rfl); (case yd31 => rfl); simp only [List.getElem_toArray, List.getElem_cons_succ, List.getElem_cons_zero, Act.put, List.setIfInBounds_toArray, List.set_cons_zero, List.set_cons_succ]
        refine' wpAnyH_take (i := 32) rfl ?cd32 ?dd32 ?ed32 (fun _ _ _ h => h) (Or.inr ⟨?hd32, ?yd32⟩) hHeld ?rd32; (case hd32 => kernel_rfl); (case cd32 => kernel_rfl); (case dd32 => kernel_rfl); (case ed32 => kernel_rfl); (case yd32 => rfl); simp only [List.getElem_toArray, List.getElem_cons_succ, List.getElem_cons_zero, Act.put, List.setIfInBounds_toArray, List.set_cons_zero, List.set_cons_succ]
        refine' wpAnyH_take (i := 33) rfl ?cd33 ?dd33 ?ed33 (fun _ _ _ h => h) (Or.inr ⟨?hd33, ?yd33⟩) hHeld ?rd33; (case hd33 => kernel_rfl); (case cd33 => kernel_rfl); (case dd33 => kernel_rfl); (case ed33 => kernel_rfl); (case yd33 => rfl); simp only [List.getElem_toArray, List.getElem_cons_succ, List.getElem_cons_zero, Act.put, List.setIfInBounds_toArray, List.set_cons_zero, List.set_cons_succ]
        refine' wpAnyH_take (i := 34) rfl ?cd34 ?dd34 ?ed34 (fun _ _ _ h => h) (Or.inr ⟨?hd34, ?yd34⟩) hHeld ?rd34; (case hd34 => kernel_rfl); (case cd34 => kernel_rfl); (case dd34 => kernel_rfl); (case ed34 => kernel_rfl); (case yd34 => rfl); simp only [List.getElem_toArray, List.getElem_cons_succ, List.getElem_cons_zero, Act.put, List.setIfInBounds_toArray, List.set_cons_zero, List.set_cons_succ]
        refine' wpAnyH_take (i := 35) rfl ?cd35 ?dd35 ?ed35 (fun _ _ _ h => h) (Or.inr ⟨?hd35, ?yd35⟩) hHeld ?rd35; (case hd35 => kernel_rfl); (case cd35 => kernel_rfl); (case dd35 => kernel_rfl); (case ed35 => kernel_rfl); (case yd35 => rfl); simp only [List.getElem_toArray, List.getElem_cons_succ, List.getElem_cons_zero, Act.put, List.setIfInBounds_toArray, List.set_cons_zero, List.set_cons_succ]
        refine' wpAnyH_take (i := 36) rfl ?cd36 ?dd36 ?ed36 (fun _ _ _ h => h) (Or.inr ⟨?hd36, ?yd36⟩) hHeld ?rd36; (case hd36 => kernel_rfl); (case cd36 => kernel_rfl); (case dd36 => kernel_rfl); (case ed36 => kernel_rfl); (case yd36 => rfl); simp only [List.getElem_toArray, List.getElem_cons_succ, List.getElem_cons_zero, Act.put, List.setIfInBounds_toArray, List.set_cons_zero, List.set_cons_succ]
        refine' wpAnyH_take (i := 37) rfl ?cl37 ?dl37 ?el37 (fun _ _ _ h => h) (Or.inl ⟨?hl37, ?yl37⟩) hHeld ?rl37; (case hl37 => kernel_rfl); (case cl37 => kernel_rfl); (case dl37 => kernel_rfl); (case el37 => kernel_rfl); (case yl37 => (intro w hSw; (try dsimp only at hSw); simp only [List.getElem_toArray, List.getElem_cons_succ, List.getElem_cons_zero]; go_simp; try with_reducible rfl)); simp only [List.getElem_toArray, List.getElem_cons_succ, List.getElem_cons_zero, Act.put, List.setIfInBounds_toArray, List.set_cons_zero, List.set_cons_succ]
        refine' wpAnyH_take (i := 38) rfl ?cl38 ?dl38 ?el38 (fun _ _ _ h => h) (Or.inl ⟨?hl38, ?yl38⟩) hHeld ?rl38; (case hl38 => kernel_rfl); (case cl38 => kernel_rfl); (case dl38 => kernel_rfl); (case el38 => kernel_rfl); (case yl38 => (intro w hSw; (try dsimp only at hSw); simp only [List.getElem_toArray, List.getElem_cons_succ, List.getElem_cons_zero]; go_simp; try with_reducible rfl)); simp only [List.getElem_toArray, List.getElem_cons_succ, List.getElem_cons_zero, Act.put, List.setIfInBounds_toArray, List.set_cons_zero, List.set_cons_succ]
        refine' wpAnyH_take (i := 39) rfl ?cl39 ?dl39 ?el39 (fun _ _ _ h => h) (Or.inl ⟨?hl39, ?yl39⟩) hHeld ?rl39; (case hl39 => kernel_rfl); (case cl39 => kernel_rfl); (case dl39 => kernel_rfl); (case el39 => kernel_rfl); (case yl39 => (intro w hSw; (try dsimp only at hSw); simp only [List.getElem_toArray, List.getElem_cons_succ, List.getElem_cons_zero]; go_simp; try with_reducible rfl)); simp only [List.getElem_toArray, List.getElem_cons_succ, List.getElem_cons_zero, Act.put, List.setIfInBounds_toArray, List.set_cons_zero, List.set_cons_succ]
        refine' wpAnyH_take (i := 40) rfl ?cl40 ?dl40 ?el40 (fun _ _ _ h => h) (Or.inl ⟨?hl40, ?yl40⟩) hHeld ?rl40; (case hl40 => kernel_rfl); (case cl40 => kernel_rfl); (case dl40 => kernel_rfl); (case el40 => kernel_rfl); (case yl40 => (intro w hSw; (try dsimp only at hSw); simp only [List.getElem_toArray, List.getElem_cons_succ, List.getElem_cons_zero]; go_simp; try with_reducible rfl)); simp only [List.getElem_toArray, List.getElem_cons_succ, List.getElem_cons_zero, Act.put, List.setIfInBounds_toArray, List.set_cons_zero, List.set_cons_succ]
        refine' wpAnyH_take (i := 41) rfl ?cl41 ?dl41 ?el41 (fun _ _ _ h => h) (Or.inl ⟨?hl41, ?yl41⟩) hHeld ?rl41; (case hl41 => kernel_rfl); (case cl41 => kernel_rfl); (case dl41 => kernel_rfl); (case el41 => kernel_rfl); (case yl41 => (intro w hSw; (try dsimp only at hSw); simp only [List.getElem_toArray, List.getElem_cons_succ, List.getElem_cons_zero]; go_simp; try with_reducible rfl)); simp only [List.getElem_toArray, List.getElem_cons_succ, List.getElem_cons_zero, Act.put, List.setIfInBounds_toArray, List.set_cons_zero, List.set_cons_succ]
        refine' wpAnyH_take (i := 42) rfl ?cl42 ?dl42 ?el42 (fun _ _ _ h => h) (Or.inl ⟨?hl42, ?yl42⟩) hHeld ?rl42; (case hl42 => kernel_rfl); (case cl42 => kernel_rfl); (case dl42 => kernel_rfl); (case el42 => kernel_rfl); (case yl42 => (intro w hSw; (try dsimp only at hSw); simp only [List.getElem_toArray, List.getElem_cons_succ, List.getElem_cons_zero]; go_simp; try with_reducible rfl)); simp only [List.getElem_toArray, List.getElem_cons_succ, List.getElem_cons_zero, Act.put, List.setIfInBounds_toArray, List.set_cons_zero, List.set_cons_succ]
        refine wpAnyH_ready (rs := [43]) (by kernel_rfl) (by simp) ?_
        refine AllReadyH.cons rfl (fun K hK => ?_) AllReadyH.nil
        simp only [List.getElem_toArray, List.getElem_cons_succ, List.getElem_cons_zero]
        go_simp
        go_at_call 29
        refine (HB.out _ hHeld.2.2.2.2).mono ?_
        rintro e w6 ⟨rfl, hD⟩
        have hb43 := bnext hHeld.2.2.2.2 (hD.below _)
        go_wp2_with fail
        refine hK.out _ _ (HKS.out _ hb43) (fun hHeld => ?_)
        clear hK K
        try simp only [Act.put, List.setIfInBounds_toArray, List.set_cons_zero, List.set_cons_succ]
        refine' wpAnyH_take (i := 44) rfl ?cl44 ?dl44 ?el44 (fun _ _ _ h => h) (Or.inl ⟨?hl44, ?yl44⟩) hHeld ?rl44; (case hl44 => kernel_rfl); (case cl44 => kernel_rfl); (case dl44 => kernel_rfl); (case el44 => kernel_rfl); (case yl44 => (intro w hSw; (try dsimp only at hSw); simp only [List.getElem_toArray, List.getElem_cons_succ, List.getElem_cons_zero]; go_simp; try with_reducible rfl)); simp only [List.getElem_toArray, List.getElem_cons_succ, List.getElem_cons_zero, Act.put, List.setIfInBounds_toArray, List.set_cons_zero, List.set_cons_succ]
        refine' wpAnyH_take (i := 45) rfl ?cl45 ?dl45 ?el45 (fun _ _ _ h => h) (Or.inl ⟨?hl45, ?yl45⟩) hHeld ?rl45; (case hl45 => kernel_rfl); (case cl45 => kernel_rfl); (case dl45 => kernel_rfl); (case el45 => kernel_rfl); (case yl45 => (intro w hSw; (try dsimp only at hSw); simp only [List.getElem_toArray, List.getElem_cons_succ, List.getElem_cons_zero]; go_simp; try with_reducible rfl)); simp only [List.getElem_toArray, List.getElem_cons_succ, List.getElem_cons_zero, Act.put, List.setIfInBounds_toArray, List.set_cons_zero, List.set_cons_succ]
        refine' wpAnyH_take (i := 46) rfl ?cl46 ?dl46 ?el46 (fun _ _ _ h => h) (Or.inl ⟨?hl46, ?yl46⟩) hHeld ?rl46; (case hl46 => kernel_rfl); (case cl46 => kernel_rfl); (case dl46 => kernel_rfl); (case el46 => kernel_rfl); (case yl46 => (intro w hSw; (try dsimp only at hSw); simp only [List.getElem_toArray, List.getElem_cons_succ, List.getElem_cons_zero]; go_simp; try with_reducible rfl)); simp only [List.getElem_toArray, List.getElem_cons_succ, List.getElem_cons_zero, Act.put, List.setIfInBounds_toArray, List.set_cons_zero, List.set_cons_succ]
        refine wpAnyH_ready (rs := [47]) (by kernel_rfl) (by simp) ?_
        refine AllReadyH.cons rfl (fun K hK => ?_) AllReadyH.nil
        simp only [List.getElem_toArray, List.getElem_cons_succ, List.getElem_cons_zero]
        go_simp
        go_at_call 31
        refine (HO.out _ hHeld.2.2.2.2).mono ?_
        rintro e w7 ⟨rfl, hb7⟩
        have hb47 := bnext hHeld.2.2.2.2 hb7
        go_wp2_with fail
        refine hK.out _ _ (HKS.out _ hb47) (fun hHeld => ?_)
        clear hK K
        try simp only [Act.put, List.setIfInBounds_toArray, List.set_cons_zero, List.set_cons_succ]
        refine' wpAnyH_take (i := 48) rfl ?cl48 ?dl48 ?el48 (fun _ _ _ h => h) (Or.inl ⟨?hl48, ?yl48⟩) hHeld ?rl48; (case hl48 => kernel_rfl); (case cl48 => kernel_rfl); (case dl48 => kernel_rfl); (case el48 => kernel_rfl); (case yl48 => (intro w hSw; (try dsimp only at hSw); simp only [List.getElem_toArray, List.getElem_cons_succ, List.getElem_cons_zero]; go_simp; try with_reducible rfl)); simp only [List.getElem_toArray, List.getElem_cons_succ, List.getElem_cons_zero, Act.put, List.setIfInBounds_toArray, List.set_cons_zero, List.set_cons_succ]
        refine' wpAnyH_take (i := 49) rfl ?cl49 ?dl49 ?el49 (fun _ _ _ h => h) (Or.inl ⟨?hl49, ?yl49⟩) hHeld ?rl49; (case hl49 => kernel_rfl); (case cl49 => kernel_rfl); (case dl49 => kernel_rfl); (case el49 => kernel_rfl); (case yl49 => (intro w hSw; (try dsimp only at hSw); simp only [List.getElem_toArray, List.getElem_cons_succ, List.getElem_cons_zero]; go_simp; try with_reducible rfl)); simp only [List.getElem_toArray, List.getElem_cons_succ, List.getElem_cons_zero, Act.put, List.setIfInBounds_toArray, List.set_cons_zero, List.set_cons_succ]
        refine wpAnyH_done (by kernel_rfl) ?_ _ -- END
        refine NoPanic.normal ?_
        have hB := hB6.out _ hHeld.2.2.2.2
        clear hHeld
        go_wp2_with fail
        go_ret
        exact ⟨rfl, hB⟩
      · rw [if_neg h1] at hxt hxu HK
        simp only at hxt hxu HK
        have b1 : ((u - 1 : Int) == 0) = false := by simpa using h1
        have hte : t.toList.isEmpty = false := by rw [← hem]; simp; omega
        have b2 : (t.toList == (⟨#[]⟩ : ByteArray).toList) = false := by
          rw [empty_list]
          cases hh : t.toList with
          | nil => rw [hh] at hte; simp at hte
          | cons _ _ => rfl
        have b3 : (t.toList == []) = false := by rw [empty_list] at b2; exact b2
        clear hem hte
        go_wp2_with fail
        have HKS := Lib.hid (fun W (hb : Below w5.heap.size w5 W) => (⟨(HK2.out W hb).1, (HK2.out W hb).2, (HK.out W hb).1, (HK.out W hb).2, hb⟩ : W.cell? ⟨g, off + j * 2, none⟩ = some (.string t) ∧ W.cell? ⟨g, off + j * 2 + 1, none⟩ = some (.int .i64 u) ∧ W.cell? ⟨g2, j * 2, none⟩ = some (.string t) ∧ W.cell? ⟨g2, j * 2 + 1, none⟩ = some (.int .i64 (u - 1)) ∧ Below w5.heap.size w5 W))
        go_region_held3 (fun W => W.cell? ⟨g, off + j * 2, none⟩ = some (.string t) ∧ W.cell? ⟨g, off + j * 2 + 1, none⟩ = some (.int .i64 u) ∧ W.cell? ⟨g2, j * 2, none⟩ = some (.string t) ∧ W.cell? ⟨g2, j * 2 + 1, none⟩ = some (.int .i64 (u - 1)) ∧ Below w5.heap.size w5 W) (first | (go_split_ands; first | exact HKS.out _ (by assumption) | exact HKS.out _ (below_drew (by assumption))))
          (first
            | (go_split_ands; go_at_call 29; refine (HB.out _ (by assumption)).mono ?_; rintro e w6 ⟨rfl, hD⟩; have hb6 := bnext (by assumption : Below w5.heap.size w5 _) (hD.below _); clear hD)
            | (go_split_ands; go_at_call 31; refine (HO.out _ (by assumption)).mono ?_; rintro e w6 ⟨rfl, hb⟩; have hb6 := bnext (by assumption : Below w5.heap.size w5 _) hb; clear hb))
        have hB := hB6.out _ (by go_split_ands; assumption)
        go_wp2_with fail
        go_ret
        exact ⟨rfl, hB⟩
  · have hz : dropB xs p = ([], false) := by
      unfold dropB dropOk
      have : (decide (1 ≤ p) && decide (p ≤ 8)) = false := by
        by_cases h1 : 1 ≤ p
        · have h8 : ¬ p ≤ 8 := fun h => hp ⟨h1, h⟩
          simp [h8]
        · simp [h1]
      rw [this]; simp
    rw [hR] at hz
    subst hz
    clear hR
    go_wp2_with fail
    refine HLG.out.mono ?_
    rintro e w4 ⟨rfl, hb4⟩
    have hdr4 := hdr3.next hb4
    have how4 := how3.next hb4 (by omega)
    have hvx4 := hvx.below hb4 (Nat.le_refl _)
    have es4 : w3.heap.size ≤ w4.heap.size := hb4.size
    clear hdr3 how3 hb4 hvx
    have HS := Lib.hid (storeOkS_v _ xs w4 hdr4.slv HF.out)
    rw [hsb] at HS
    clear hsb
    by_cases hlo : p < 1
    · go_wp2_with fail
      refine HS.out.mono ?_
      rintro e w5 ⟨rfl, hb5⟩
      have hdr5 := hdr4.next hb5
      have HQ := Lib.hid (lgSlots_same vx vw [] w5 ((hvx4.below hb5 (Nat.le_refl _)).slv (by simp)) ((how4.next hb5 (by omega)).slv (by simp)))
      clear hb5 hdr4 how4 hvx4
      go_wp2_with fail
      refine HQ.out.mono ?_
      rintro e w6 ⟨rfl, hb6⟩
      have hB := (hdr5.next hb6).bel
      clear hb6 hdr5
      go_wp2_with fail
      go_ret
      exact ⟨rfl, hB⟩
    · have hhi : 8 < p := by
        by_cases h8 : p ≤ 8
        · exact absurd ⟨by omega, h8⟩ hp
        · omega
      clear hp
      go_wp2_with fail
      refine HS.out.mono ?_
      rintro e w5 ⟨rfl, hb5⟩
      have hdr5 := hdr4.next hb5
      have HQ := Lib.hid (lgSlots_same vx vw [] w5 ((hvx4.below hb5 (Nat.le_refl _)).slv (by simp)) ((how4.next hb5 (by omega)).slv (by simp)))
      clear hb5 hdr4 how4 hvx4
      go_wp2_with fail
      refine HQ.out.mono ?_
      rintro e w6 ⟨rfl, hb6⟩
      have hB := (hdr5.next hb6).bel
      clear hb6 hdr5
      go_wp2_with fail
      go_ret
      exact ⟨rfl, hB⟩

set_option maxRecDepth 100000 in
theorem lifted (os : Os) (started : os.Started) (H : Type) (enc : TypeId × Value → H) :
    ReturnsInHanded {} Try.checked os 7 .any (Rows.fnDropUsesSpec.pre6 enc Try.prog Try.f7 Rows.fnDropUsesRow.domain false) (Rows.fnDropUsesSpec.post enc Try.prog Try.f7 false true false false) := by
  refine returnsInHanded_of_change (C := Try.checked) own started (by kernel_rfl) Try.func7
    (ChangeSpec.witness6 (enc := enc) (C := Try.checked) false ⟨#[], #[.slice none 0 0], []⟩ 8 (by kernel_rfl) (by kernel_rfl) (by kernel_rfl) (by kernel_rfl)) ?_
  intro W base args ds gs before hval0 hW hcnd _
  have hval : ∀ (j : Nat) t v, Try.f7.params[j]? = some t → args[j]? = some v → Value.okWide Try.prog W .any base t v := hval0
  have hW' := hW
  obtain ⟨p, q, hA0, hV, rfl, hfz, hnd⟩ := hW
  have hA : DataW.TrodAll enc Try.prog W 0 (fun _ => true) true Try.f7.params.toList args.toList ds p := hA0
  rw [Try.params7] at hA hval
  obtain ⟨v0, vs0, d0, ds0, p0, q0, hargs, rfl, rfl, h0, r0⟩ := trodAll_cons hA
  obtain ⟨rfl, rfl, rfl⟩ := trodAll_nil r0
  obtain rfl : args = #[v0] := by cases args; simp_all
  obtain ⟨rfl, rfl⟩ := trodVars_none hV
  obtain ⟨a0, len0, cap0, rfl⟩ := okWide_slice Try.underlying22 (hval 0 22 v0 rfl rfl)
  have k0 := h0
  have lt0 : ∀ x ∈ p0, x.block < W.heap.size := by obtain ⟨m, hm⟩ := k0; exact DataW.trod_lt m _ _ _ hm
  obtain ⟨z0, w0⟩ : ∃ zs, IsRow .u8 W a0 len0 cap0 zs := by
    obtain ⟨fuel, hf⟩ := h0
    rcases open_ints Try.underlying22 Try.underlying5 (by kernel_rfl) hf with ⟨hcs, _⟩ | ⟨x, l, c, zs, hcs, _, hl, hm, hz, _, hcell, hwz⟩
    · simp [Value.cells] at hcs
      obtain ⟨rfl, rfl, rfl⟩ := hcs
      exact ⟨[], .inl ⟨rfl, rfl, rfl, rfl⟩⟩
    · simp [Value.cells] at hcs
      obtain ⟨rfl, rfl, rfl⟩ := hcs
      exact ⟨zs, .inr ⟨_, rfl, hl, hm, by simpa using hz, hcell, hwz⟩⟩
  clear hA0 hval0
  refine (walk W a0 len0 cap0 z0 w0).mono fun e W' ⟨he, bel⟩ => ?_
  subst he
  exact ⟨_, rfl, _, _, _, [], _, [], hW', trodAll_mk1 (shut_bool Try.underlying4 _), (trodAll_cons_mk (Below.trod laidOut (by kernel_rfl) (of_decide_eq_true (by kernel_rfl)) k0 bel lt0) trodAll_mk0), rfl, bel.frame _, fun h => by cases h⟩

theorem closed : joinedFacts Try.prog 7 Try.f7 Rows.fnDropUsesSpec Rows.fnDropUsesRow = true := by
  unfold joinedFacts
  rewrite [head_may, head_lifts, head_make]
  kernel_rfl
theorem over : Rows.fnDropUsesRow.holds Try.pinned (OpenSpec.ofChange Rows.fnDropUsesSpec) :=
  OpenClaim.holds_of_wide 7 Try.f7 rfl rfl rfl rfl rfl rfl rfl ⟨rfl, rfl, rfl, rfl, rfl⟩ rfl rfl rfl rfl rfl (by kernel_rfl) Try.func7 closed
    (of_decide_eq_true (by kernel_rfl)) (by unfold Func.isWrapper; first | (rw [if_pos (by decide +kernel)]; kernel_rfl) | (rw [if_neg (by decide +kernel)]; exact ⟨rfl, rfl⟩))
    (fun os started H enc _ => lifted os started H enc)

theorem proved : Rows.FnDropUsesSaid := over
#print axioms proved
end Go.Proofs.Ytgajhknljnhfmaa.fnDropUses
