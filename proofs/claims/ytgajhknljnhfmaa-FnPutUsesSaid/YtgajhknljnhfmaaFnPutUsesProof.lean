/- For every code the law FnPutUses returns true and leaves the code as it was. No condition. -/
import Derived.Test.YtgajhknljnhfmaaRows
import Derived.WalkKit
import Derived.ProofKit
import Derived.OpenShut
import Derived.ShutString
import Derived.ChangeOld
import Derived.Below
import Derived.Test.YtgajhknljnhfmaaHead
import Derived.Test.YtgajhknljnhfmaaStoreMath2
import Derived.Deep.RegionHeld3
import Derived.IntWalk
namespace Go.Proofs.Ytgajhknljnhfmaa.fnPutUses
open Go.ChangeShapes Go.WideShapes Go.ChangeAt Go.RowKit
open Go.ChangeMaps (open_string shut_string)
set_option linter.unusedVariables false

theorem own : ownKnob Try.prog.godebug = none := by kernel_rfl
theorem laidOut : laidOutB Try.prog = true := by kernel_rfl

def IsRow (k : IntKind) (w : World) (a : Option Addr) (len cap : Nat) (zs : List Int) : Prop :=
  (a = none ∧ len = 0 ∧ cap = 0 ∧ zs = []) ∨
  ∃ x, a = some x ∧ len ≤ cap ∧ cap ≤ maxLen ∧ zs.length = cap ∧ (∀ i, i < zs.length → w.cell? (x.add i) = some (.int k (zs.getD i 0))) ∧ ∀ n ∈ zs, (Lit.int k n).wf = true

set_option maxRecDepth 100000 in
set_option maxHeartbeats 800000 in
theorem walk (w : World) (a0 : Option Addr) (len0 cap0 : Nat) (z0 : List Int) (w0 : IsRow .u8 w a0 len0 cap0 z0) :
    Calls Try.prog 4 #[.slice a0 len0 cap0] w fun e w' => e = .returned (.bool true) ∧ Below w.heap.size w w' := by
  obtain ⟨hr8, hlc, hc⟩ := row8 w0
  clear w0
  by_cases hbig : (1048576 : Int) < len0
  · go_enter Try.func4, Try.ntmps4
    go_wp2
    go_ret
    exact ⟨rfl, Below.refl _ _⟩
  have hd := drawStorePut_any a0 len0 cap0 w hlc hc hr8
  clear hr8
  go_enter Try.func4, Try.ntmps4
  go_wp2_with fail
  refine hd.mono ?_
  rintro e w1 ⟨g, off, n, c, xs, t, rfl, ht, hdr⟩
  clear hd
  have hts : t.size ≤ maxLen := by unfold maxLen; omega
  have HF := Lib.hid hdr.bnd.fits
  have HBN := Lib.hid hdr.bnd
  have HL := Lib.hid hdr.len
  have hn8 := hdr.hi
  obtain ⟨R, hR⟩ : ∃ R, putB xs t = R := ⟨_, rfl⟩
  have HR := Lib.hid hR
  have HRL : Hid (R.1.length ≤ 2000000) := Lib.hid (by rw [← hR]; exact Nat.le_trans (putB_len xs t) (by rw [HL.out]; omega))
  go_wp2_with fail
  refine (storePutS_v _ xs t w1 hdr.slv HF.out hts).mono ?_
  rw [hR]
  rintro e w2 ⟨vw, rfl, hvw, hb2⟩
  have hdr2 := hdr.next hb2
  have how := hvw.own
  have es2 : w1.heap.size ≤ w2.heap.size := hb2.size
  clear hdr hb2 hvw
  go_wp2_with fail
  refine (storePut_v _ xs t w2 hdr2.slv HF.out hts).mono ?_
  rw [hR]
  rintro e w3 ⟨vx, rfl, hvx, hb3⟩
  have hdr3 := hdr2.next hb3
  have how3 := how.next hb3 (Nat.le_refl _)
  have es3 : w2.heap.size ≤ w3.heap.size := hb3.size
  clear hdr2 hb3 how
  have hlg := lgSlots_same vx vw R.1 w3 (hvx.slv HRL.out) (how3.slv HRL.out)
  have HLG := Lib.hid hlg
  clear hlg
  rcases put_ok_of xs t with hno | ⟨j, hpo, hgood, hsb⟩
  · rw [hR] at hno
    obtain ⟨ys, p, ok⟩ := R
    simp only at hno
    subst hno
    clear hR
    go_wp2_with fail
    refine HLG.out.mono ?_
    rintro e w4 ⟨rfl, hb4⟩
    have hdr4 := hdr3.next hb4
    have how4 := how3.next hb4 (by omega)
    have hvx4 := hvx.below hb4 (Nat.le_refl _)
    clear hdr3 how3 hb4 hvx
    have hlg := lgSlots_same vx vw ys w4 (hvx4.slv HRL.out) (how4.slv HRL.out)
    have HLG4 := Lib.hid hlg
    clear hlg how4 hvx4
    go_wp2_with fail
    refine HLG4.out.mono ?_
    rintro e w5 ⟨rfl, hb5⟩
    have hB := (hdr4.next hb5).bel
    clear hb5 hdr4
    go_wp2_with fail
    go_ret
    exact ⟨rfl, hB⟩
  have hR2 := hR.symm.trans hpo.eq
  clear hR
  subst hR2
  simp only at HRL how3 hvx
  obtain rfl : n = 8 := by have := HL.out; have := storeB_len hsb; omega
  have HPO := Lib.hid hpo
  have HG := Lib.hid hgood
  have HSB := Lib.hid hsb
  have hj := hpo.lt
  have hule := hpo.le
  have huup := hpo.up
  have HFY : Hid (Fits (xs.set j ⟨t, (nth xs j).uses + 1⟩)) := Lib.hid (HBN.out.setFits j t _ (by rw [HL.out]; exact hj) ht)
  have HLY : Hid ((xs.set j ⟨t, (nth xs j).uses + 1⟩).length = 8) := Lib.hid (by rw [List.length_set]; exact HL.out)
  have hwas := hpo.was
  have hjl : j < xs.length := by rw [HL.out]; exact hj
  have HBT : Hid (butTo (xs.set j ⟨t, (nth xs j).uses + 1⟩) xs ((j : Int) + 1) 8 = true) := Lib.hid (butTo_set xs j _ hjl 8)
  have HF2 : Hid (findB (xs.set j ⟨t, (nth xs j).uses + 1⟩) t = ((j : Int) + 1, true)) := Lib.hid (hpo.find hgood)
  have HFR : Hid (freeB (xs.set j ⟨t, (nth xs j).uses + 1⟩) = freeB xs - (if (nth xs j).uses = 0 then 1 else 0)) := Lib.hid (hpo.free hsb)
  have HOK : Hid (storeB (xs.set j ⟨t, (nth xs j).uses + 1⟩) = true) := Lib.hid hpo.ok
  have hyj : nth (xs.set j ⟨t, (nth xs j).uses + 1⟩) j = ⟨t, (nth xs j).uses + 1⟩ := by rw [nth_set _ _ _ _ hjl, if_pos rfl]
  have HFB : Hid (0 ≤ freeB xs ∧ freeB xs ≤ 8) := Lib.hid (by rw [freeB_of hsb]; exact freeTo_bound xs 8)
  clear hpo hgood hsb hjl
  obtain ⟨ys, hys⟩ : ∃ ys, xs.set j ⟨t, (nth xs j).uses + 1⟩ = ys := ⟨_, rfl⟩
  rw [hys] at HRL how3 hvx HFY HLY HBT HF2 HFR HOK hyj
  clear hys
  obtain ⟨g2, cap2, rfl, hg2, hg2s, hcap2, hsl2⟩ := hvx.some8 HLY.out
  go_wp2_with fail
  refine HLG.out.mono ?_
  rintro e w4 ⟨rfl, hb4⟩
  have hdr4 := hdr3.next hb4
  have hvx4 := hvx.below hb4 (Nat.le_refl _)
  have hs24 := hsl2.1.below hb4 hg2s
  have es4 : w3.heap.size ≤ w4.heap.size := hb4.size
  clear hdr3 how3 hb4 hvx hsl2
  have H1 := Lib.hid (storeFind_v _ xs t w4 hdr4.slv HF.out hts)
  go_wp2_with fail
  refine H1.out.mono ?_
  rcases hwas with ⟨hx, hne⟩ | ⟨h0, hnone⟩
  · have hf1 := findB_hit HSB.out HG.out ((goodB_iff xs t).1 HG.out).2.2 j hj hx
    rw [hf1]
    clear hf1 hx
    rintro e w5 ⟨rfl, hb5⟩
    have hdr5 := hdr4.next hb5
    have hvx5 := hvx4.below hb5 (by omega)
    have hs25 := hs24.below hb5 (by omega)
    have es5 : w4.heap.size ≤ w5.heap.size := hb5.size
    clear hdr4 hvx4 hs24 hb5
    have H2 := Lib.hid (storeFind_v _ ys t w5 (hvx5.slv HRL.out) HFY.out hts)
    rw [HF2.out] at H2
    go_wp2_with fail
    refine H2.out.mono ?_
    rintro e w6 ⟨rfl, hb6⟩
    have hdr6 := hdr5.next hb6
    have hvx6 := hvx5.below hb6 (by omega)
    have hs26 := hs25.below hb6 (by omega)
    have es6 : w5.heap.size ≤ w6.heap.size := hb6.size
    clear hdr5 hvx5 hs25 hb6
    have HK := Lib.hid (fun W (hb : Below w6.heap.size w6 W) => ((hs26.below hb (by omega)) j (by rw [HLY.out]; exact hj)).2)
    have HK2 := Lib.hid (fun W (hb : Below w6.heap.size w6 W) => ((hdr6.next hb).sl.1 j (by rw [HL.out]; exact hj)).2)
    have HB := Lib.hid (fun W (hb : Below w6.heap.size w6 W) => lgBut_some g2 0 g off 8 cap2 c ((j : Int) + 1) ys xs W (hs26.below hb (by omega)) (hdr6.next hb).sl.1 HLY.out HL.out (by omega) (by omega) (by omega))
    rw [HBT.out] at HB
    have HX := Lib.hid (fun W (hb : Below w6.heap.size w6 W) => storeFree_v _ ys W ((hvx6.below hb (by omega)).slv HRL.out) HFY.out)
    have HY := Lib.hid (fun W (hb : Below w6.heap.size w6 W) => storeFree_v _ xs W (hdr6.next hb).slv HF.out)
    have HB6 := Lib.hid (fun W (hb : Below w6.heap.size w6 W) => (hdr6.next hb).bel)
    rw [HFR.out, if_neg hne, Int.sub_zero] at HX
    rw [hyj] at HK
    simp only [Nat.zero_add] at HK
    clear hs26 hvx6 hdr6 hne
    obtain ⟨u, hu⟩ : ∃ u, (nth xs j).uses = u := ⟨_, rfl⟩
    rw [hu] at HK HK2 hule huup
    clear hu hyj
    have hbr : Below w6.heap.size w6 w6 := Below.refl _ _
    have q1 : IntKind.i64.wrap ((j : Int) + 1 - 1) = (j : Int) := by rw [IntWalk.i64_in _ (by omega)]; omega
    have q3 : IntKind.i64.wrap (j : Int) = (j : Int) := IntWalk.i64_in _ (by omega)
    have q4 : (0 : Int) ≤ (j : Int) := by omega
    have q5 : (j : Int) < 8 := by omega
    have q6 : ¬ (j : Int) < 0 := by omega
    have q7 : ¬ (8 : Int) ≤ (j : Int) := by omega
    have q2 : IntKind.i64.wrap (u + 1) = u + 1 := IntWalk.i64_in _ (by omega)
    obtain ⟨F, hF⟩ : ∃ F, freeB xs = F := ⟨_, rfl⟩
    rw [hF] at HX HY
    clear hF
    go_wp2_with fail
    have HKS := Lib.hid (fun W (hb : Below w6.heap.size w6 W) => (⟨HK2.out W hb, HK.out W hb, hb⟩ : W.cell? ⟨g, off + j * 2 + 1, none⟩ = some (.int .i64 u) ∧ W.cell? ⟨g2, j * 2 + 1, none⟩ = some (.int .i64 (u + 1)) ∧ Below w6.heap.size w6 W))
    go_region_held3 (fun W => W.cell? ⟨g, off + j * 2 + 1, none⟩ = some (.int .i64 u) ∧ W.cell? ⟨g2, j * 2 + 1, none⟩ = some (.int .i64 (u + 1)) ∧ Below w6.heap.size w6 W) (first | (go_split_ands; first | exact HKS.out _ (by assumption) | exact HKS.out _ (below_drew (by assumption))))
      (first
        | (go_split_ands; go_at_call 29; refine (HB.out _ (by assumption)).mono ?_; rintro e w7 ⟨rfl, hD⟩; have hb7 := bnext (by assumption : Below w6.heap.size w6 _) (hD.below _); clear hD)
        | (go_split_ands; go_at_call 30; ((first | with_reducible refine (HX.out _ (by assumption)).mono ?_ | with_reducible refine (HY.out _ (by assumption)).mono ?_); rintro e w7 ⟨rfl, hb⟩; have hb7 := bnext (by assumption : Below w6.heap.size w6 _) hb; clear hb)))
    have hB := HB6.out _ (by go_split_ands; assumption)
    go_wp2_with fail
    go_ret
    exact ⟨rfl, hB⟩
  · have hf1 := findB_miss HG.out hnone
    rw [hf1]
    clear hf1 hnone
    rintro e w5 ⟨rfl, hb5⟩
    have hdr5 := hdr4.next hb5
    have hvx5 := hvx4.below hb5 (by omega)
    have hs25 := hs24.below hb5 (by omega)
    have es5 : w4.heap.size ≤ w5.heap.size := hb5.size
    clear hdr4 hvx4 hs24 hb5
    have H2 := Lib.hid (storeFind_v _ ys t w5 (hvx5.slv HRL.out) HFY.out hts)
    rw [HF2.out] at H2
    go_wp2_with fail
    refine H2.out.mono ?_
    rintro e w6 ⟨rfl, hb6⟩
    have hdr6 := hdr5.next hb6
    have hvx6 := hvx5.below hb6 (by omega)
    have hs26 := hs25.below hb6 (by omega)
    have es6 : w5.heap.size ≤ w6.heap.size := hb6.size
    clear hdr5 hvx5 hs25 hb6
    have HK := Lib.hid (fun W (hb : Below w6.heap.size w6 W) => ((hs26.below hb (by omega)) j (by rw [HLY.out]; exact hj)).2)
    have HK2 := Lib.hid (fun W (hb : Below w6.heap.size w6 W) => ((hdr6.next hb).sl.1 j (by rw [HL.out]; exact hj)).2)
    have HB := Lib.hid (fun W (hb : Below w6.heap.size w6 W) => lgBut_some g2 0 g off 8 cap2 c ((j : Int) + 1) ys xs W (hs26.below hb (by omega)) (hdr6.next hb).sl.1 HLY.out HL.out (by omega) (by omega) (by omega))
    rw [HBT.out] at HB
    have HX := Lib.hid (fun W (hb : Below w6.heap.size w6 W) => storeFree_v _ ys W ((hvx6.below hb (by omega)).slv HRL.out) HFY.out)
    have HY := Lib.hid (fun W (hb : Below w6.heap.size w6 W) => storeFree_v _ xs W (hdr6.next hb).slv HF.out)
    have HO := Lib.hid (fun W (hb : Below w6.heap.size w6 W) => storeOk_v _ ys W ((hvx6.below hb (by omega)).slv HRL.out) HFY.out)
    have HB6 := Lib.hid (fun W (hb : Below w6.heap.size w6 W) => (hdr6.next hb).bel)
    rw [HFR.out, if_pos h0] at HX
    rw [HOK.out] at HO
    rw [hyj, h0] at HK
    rw [h0] at HK2
    simp only [Nat.zero_add, Int.zero_add] at HK
    clear hs26 hvx6 hdr6 hyj hule huup h0
    have hbr : Below w6.heap.size w6 w6 := Below.refl _ _
    have q1 : IntKind.i64.wrap ((j : Int) + 1 - 1) = (j : Int) := by rw [IntWalk.i64_in _ (by omega)]; omega
    have q3 : IntKind.i64.wrap (j : Int) = (j : Int) := IntWalk.i64_in _ (by omega)
    have q4 : (0 : Int) ≤ (j : Int) := by omega
    have q5 : (j : Int) < 8 := by omega
    have q6 : ¬ (j : Int) < 0 := by omega
    have q7 : ¬ (8 : Int) ≤ (j : Int) := by omega
    obtain ⟨F, hF⟩ : ∃ F, freeB xs = F := ⟨_, rfl⟩
    have q8 : IntKind.i64.wrap (F - 1) = F - 1 := IntWalk.i64_in _ (by have := HFB.out; omega)
    rw [hF] at HX HY
    clear hF
    have hk1 := HK.out w6 hbr
    have hk2 := HK2.out w6 hbr
    go_wp2_with fail
    refine (HB.out _ hbr).mono ?_
    rintro e w7 ⟨rfl, hD⟩
    have hb7 := hD.below w6.heap.size
    clear hD hk1 hk2
    go_wp2_with fail
    refine (HX.out _ hb7).mono ?_
    rintro e w8 ⟨rfl, hb8⟩
    have hc8 := bnext hb7 hb8
    clear hb8 hb7
    go_wp2_with fail
    refine (HY.out _ hc8).mono ?_
    rintro e w9 ⟨rfl, hb9⟩
    have hc9 := bnext hc8 hb9
    clear hb9 hc8
    go_wp2_with fail
    refine (HO.out _ hc9).mono ?_
    rintro e w10 ⟨rfl, hb10⟩
    have hB := HB6.out _ (bnext hc9 hb10)
    clear hb10 hc9
    go_wp2_with fail
    go_ret
    exact ⟨rfl, hB⟩

set_option maxRecDepth 100000 in
theorem lifted (os : Os) (started : os.Started) (H : Type) (enc : TypeId × Value → H) :
    ReturnsInHanded {} Try.checked os 4 .any (Rows.fnPutUsesSpec.pre6 enc Try.prog Try.f4 Rows.fnPutUsesRow.domain false) (Rows.fnPutUsesSpec.post enc Try.prog Try.f4 false true false false) := by
  refine returnsInHanded_of_change (C := Try.checked) own started (by kernel_rfl) Try.func4
    (ChangeSpec.witness6 (enc := enc) (C := Try.checked) false ⟨#[], #[.slice none 0 0], []⟩ 8 (by kernel_rfl) (by kernel_rfl) (by kernel_rfl) (by kernel_rfl)) ?_
  intro W base args ds gs before hval0 hW hcnd _
  have hval : ∀ (j : Nat) t v, Try.f4.params[j]? = some t → args[j]? = some v → Value.okWide Try.prog W .any base t v := hval0
  have hW' := hW
  obtain ⟨p, q, hA0, hV, rfl, hfz, hnd⟩ := hW
  have hA : DataW.TrodAll enc Try.prog W 0 (fun _ => true) true Try.f4.params.toList args.toList ds p := hA0
  rw [Try.params4] at hA hval
  obtain ⟨v0, vs0, d0, ds0, p0, q0, hargs, rfl, rfl, h0, r0⟩ := trodAll_cons hA
  obtain ⟨rfl, rfl, rfl⟩ := trodAll_nil r0
  obtain rfl : args = #[v0] := by cases args; simp_all
  obtain ⟨rfl, rfl⟩ := trodVars_none hV
  obtain ⟨a0, len0, cap0, rfl⟩ := okWide_slice Try.underlying22 (hval 0 22 v0 rfl rfl)
  have k0 := h0
  have lt0 : ∀ x ∈ p0, x.block < W.heap.size := by obtain ⟨m, hm⟩ := k0; exact DataW.trod_lt m _ _ _ hm
  obtain ⟨z0, w0⟩ : ∃ zs, IsRow .u8 W a0 len0 cap0 zs := by
    obtain ⟨fuel, hf⟩ := h0
    rcases open_ints Try.underlying22 Try.underlying5 (by kernel_rfl) hf with ⟨hcs, _⟩ | ⟨x, l, c, zs, hcs, _, hl, hm, hz, _, hcell, hwz⟩
    · simp [Value.cells] at hcs
      obtain ⟨rfl, rfl, rfl⟩ := hcs
      exact ⟨[], .inl ⟨rfl, rfl, rfl, rfl⟩⟩
    · simp [Value.cells] at hcs
      obtain ⟨rfl, rfl, rfl⟩ := hcs
      exact ⟨zs, .inr ⟨_, rfl, hl, hm, by simpa using hz, hcell, hwz⟩⟩
  clear hA0 hval0
  refine (walk W a0 len0 cap0 z0 w0).mono fun e W' ⟨he, bel⟩ => ?_
  subst he
  exact ⟨_, rfl, _, _, _, [], _, [], hW', trodAll_mk1 (shut_bool Try.underlying4 _), (trodAll_cons_mk (Below.trod laidOut (by kernel_rfl) (of_decide_eq_true (by kernel_rfl)) k0 bel lt0) trodAll_mk0), rfl, bel.frame _, fun h => by cases h⟩

theorem closed : joinedFacts Try.prog 4 Try.f4 Rows.fnPutUsesSpec Rows.fnPutUsesRow = true := by
  unfold joinedFacts
  rewrite [head_may, head_lifts, head_make]
  kernel_rfl
theorem over : Rows.fnPutUsesRow.holds Try.pinned (OpenSpec.ofChange Rows.fnPutUsesSpec) :=
  OpenClaim.holds_of_wide 4 Try.f4 rfl rfl rfl rfl rfl rfl rfl ⟨rfl, rfl, rfl, rfl, rfl⟩ rfl rfl rfl rfl rfl (by kernel_rfl) Try.func4 closed
    (of_decide_eq_true (by kernel_rfl)) (by unfold Func.isWrapper; first | (rw [if_pos (by decide +kernel)]; kernel_rfl) | (rw [if_neg (by decide +kernel)]; exact ⟨rfl, rfl⟩))
    (fun os started H enc _ => lifted os started H enc)

theorem proved : Rows.FnPutUsesSaid := over
#print axioms proved
end Go.Proofs.Ytgajhknljnhfmaa.fnPutUses
