/- For every disk and every slice of slots the law FnExactVolText returns true and leaves both as they were. No condition. -/
import Derived.Test.YtgajhknljnhfmaaRows
import Derived.WalkKit
import Derived.ProofKit
import Derived.OpenShut
import Derived.ShutString
import Derived.ChangeOld
import Derived.Below
import Derived.Test.YtgajhknljnhfmaaHead
import Derived.Test.YtgajhknljnhfmaaVolV
import Derived.Deep.RegionHeld3
import Derived.ChangeArms
namespace Go.Proofs.Ytgajhknljnhfmaa.fnExactVolText
open Go.ChangeShapes Go.WideShapes Go.ChangeAt Go.RowKit
open Go.ChangeMaps (open_string shut_string)
set_option linter.unusedVariables false

theorem own : ownKnob Try.prog.godebug = none := by kernel_rfl
theorem laidOut : laidOutB Try.prog = true := by kernel_rfl

def IsRow (k : IntKind) (w : World) (a : Option Addr) (len cap : Nat) (zs : List Int) : Prop :=
  (a = none ∧ len = 0 ∧ cap = 0 ∧ zs = []) ∨
  ∃ x, a = some x ∧ len ≤ cap ∧ cap ≤ maxLen ∧ zs.length = cap ∧ (∀ i, i < zs.length → w.cell? (x.add i) = some (.int k (zs.getD i 0))) ∧ ∀ n ∈ zs, (Lit.int k n).wf = true

set_option maxRecDepth 100000 in
set_option maxHeartbeats 800000 in
theorem walk (w : World) (nm0 : ByteArray) (a0 : Option Addr) (len0 cap0 : Nat) (z0 : List Int) (w0 : nm0.size ≤ maxLen ∧ Ints w a0 z0 ∧ z0.length = len0 ∧ len0 ≤ 9223372036854775807) (a1 : Option Addr) (len1 cap1 : Nat) (z1 : List Sl) (w1 : Sls w a1 z1 ∧ z1.length = len1 ∧ len1 ≤ 9223372036854775807 ∧ ∀ i, i < len1 → (nth z1 i).text.size ≤ maxLen) :
    Calls Try.prog 20 #[.agg #[.string nm0, .slice a0 len0 cap0], .slice a1 len1 cap1] w fun e w' => e = .returned (.bool true) ∧ Below w.heap.size w w' := by
  obtain ⟨hs, hx, hl, hlen⟩ := w0
  obtain ⟨hy, hm, hmen, hts⟩ := w1
  have HL := Lib.hid hl
  have HM := Lib.hid hm
  have hs2 : nm0.size ≤ 9223372036854775807 := by unfold maxLen at hs; omega
  have HS := Lib.hid hs
  have HFI : Hid (Fits z1) := Lib.hid (by unfold Fits; rw [hm]; exact hts)
  have bx := boxed_vol w nm0 a0 len0 cap0 z0 65 hx
  have HX := Lib.hid bx
  have hy0 := hy.below bx.bel (Nat.le_refl _)
  have HZ := Lib.hid (fun W => szVol_any nm0 a0 len0 cap0 1048576 W (by omega) (by omega) hs2 hlen)
  have HZ2 := Lib.hid (fun left W hY (h0 : (0 : Int) ≤ left) (h1 : left ≤ 1048576) => szSlotS_any a1 len1 cap1 z1 left W hY hm hmen h0 h1 hts)
  obtain ⟨U, hU⟩ : ∃ U, textF ⟨nm0, z0⟩ z1 = U := ⟨_, rfl⟩
  have HU := Lib.hid hU
  clear hl hs bx hx hm hts hy hU
  go_enter Try.func20, Try.ntmps20
  go_wp2_with fail
  refine (HZ.out _).mono ?_
  rintro e u1 ⟨r, rfl, hr, hb1⟩
  have hX1 := HX.out.next hb1
  have hy1 := hy0.below hb1 (Nat.le_refl _)
  clear hb1 hy0
  rcases hr with hr | ⟨r0, r1, r2, r3⟩
  · go_wp2_with fail
    go_ret
    exact ⟨rfl, hX1.bel⟩
  · have HZ3 := Lib.hid (HZ2.out r u1 hy1 r0 r1)
    go_wp2_with fail
    refine HZ3.out.mono ?_
    rintro e u2 ⟨q, rfl, hq, hb1⟩
    have hX2 := hX1.next hb1
    have hy2 := hy1.below hb1 (Nat.le_refl _)
    clear hb1 hy1 hX1
    rcases hq with hq | ⟨q0, q1, q2, q3⟩
    · go_wp2_with fail
      go_ret
      exact ⟨rfl, hX2.bel⟩
    · have hn : len0 ≤ 2000000 := by omega
      have hn1 : len1 ≤ 2000000 := by omega
      have HN : Hid (z0.length ≤ 2000000) := Lib.hid (by rw [HL.out]; exact hn)
      have HN1 : Hid (z1.length ≤ 2000000) := Lib.hid (by rw [HM.out]; exact hn1)
      have hc0 := hX2.c0
      have hc1 := hX2.c1
      have HT1 := Lib.hid (toVol_any nm0 a0 len0 cap0 z0 u2 hX2.ints HL.out hn)
      have HX2 := Lib.hid hX2
      have HY2 := Lib.hid hy2
      clear r3 r2 q3 q2 hX2 hy2
      go_wp2_with fail
      refine HT1.out.mono ?_
      rintro e w2 ⟨v1, rfl, hv1, hb2⟩
      have hX3 := HX2.out.next hb2
      have hy3 := HY2.out.below hb2 (Nat.le_refl _)
      have HS3 := Lib.hid (toSlotS_any a1 len1 cap1 z1 w2 hy3 HM.out hn1)
      have hi3 := newInt_v hv1 HN.out
      clear hb2 hv1 hc0 hc1
      go_wp2_with fail
      refine HS3.out.mono ?_
      rintro e w3 ⟨s1, rfl, hs1, hb3⟩
      have hX4 := hX3.next hb3
      have hy4 := hy3.below hb3 (Nat.le_refl _)
      have HO := Lib.hid (volTextS_v (.agg #[.string nm0, v1]) ⟨nm0, z0⟩ s1 z1 w3 (vov_of (x := ⟨nm0, z0⟩) (intv_below hi3 hb3 (Nat.le_refl _))) HS.out (hs1.slv HN1.out) HFI.out)
      rw [HU.out] at HO
      clear hX3 hy3 hi3 hb3 hs1
      go_wp2_with fail
      refine HO.out.mono ?_
      rintro e w4 ⟨rfl, hb4⟩
      have hX5 := hX4.next hb4
      have hy5 := hy4.below hb4 (Nat.le_refl _)
      have hc0 := hX5.c0
      have hc1 := hX5.c1
      have HT5 := Lib.hid (toVol_any nm0 a0 len0 cap0 z0 w4 hX5.ints HL.out hn)
      have HX5 := Lib.hid hX5
      have HY5 := Lib.hid hy5
      clear hX4 hy4 hb4 hX5 hy5
      go_wp2_with fail
      refine HT5.out.mono ?_
      rintro e w5 ⟨v2, rfl, hv2, hb5⟩
      have hX6 := HX5.out.next hb5
      have hy6 := HY5.out.below hb5 (Nat.le_refl _)
      obtain ⟨va, vn, vc, rfl⟩ := newInt_slice hv2
      have HV2 := Lib.hid (newInt_v hv2 HN.out)
      have HB6 := Lib.hid (boxed_own w5 nm0 va vn vc z0 49 HV2.out)
      have HY6 := Lib.hid (hy6.below HB6.out.bel (Nat.le_refl _))
      have HX6 := Lib.hid (hX6.alloc (.cells #[.string nm0, .slice va vn vc] 49))
      have HS6 := Lib.hid (toSlotS_any a1 len1 cap1 z1 _ HY6.out HM.out hn1)
      clear hb5 hc0 hc1 hX6 hy6 hv2
      go_wp2_with fail
      refine HS6.out.mono ?_
      rintro e w6 ⟨s2, rfl, hs2v, hb6⟩
      have hX7 := HX6.out.next hb6
      have hV7 := HB6.out.next hb6
      have hy7 := HY6.out.below hb6 (Nat.le_refl _)
      have hd0 := hV7.c0
      have hd1 := hV7.c1
      have HO7 := Lib.hid (volText_v (.agg #[.string nm0, .slice va vn vc]) ⟨nm0, z0⟩ s2 z1 w6 ⟨va, vn, vc, rfl, (ints_of_v HV2.out).1, (ints_of_v HV2.out).2.1, hV7.ints⟩ HS.out (hs2v.slv HN1.out) HFI.out)
      rw [HU.out] at HO7
      have HX7 := Lib.hid hX7
      have HV7 := Lib.hid hV7
      have HY7 := Lib.hid hy7
      have HSV := Lib.hid (hs2v.slv HN1.out)
      clear hb6 hX7 hV7 hy7 hs2v
      go_wp2_with fail
      refine HO7.out.mono ?_
      rintro e w7 ⟨rfl, hb7⟩
      have hX8 := HX7.out.next hb7
      have hV8 := HV7.out.next hb7
      have hy8 := HY7.out.below hb7 (Nat.le_refl _)
      have hsv8 := HSV.out.below hb7 (Nat.le_refl _)
      have hne : (!(U.toList == U.toList)) = false := by simp
      clear hb7 hd0 hd1
      have HK := Lib.hid (fun W (hb : Below w7.heap.size w7 W) => (⟨(hX8.next hb).c0, (hX8.next hb).c1, (hV8.next hb).c0, (hV8.next hb).c1, hb⟩ :
        W.cell? ⟨w.heap.size, 0, none⟩ = some (.string nm0) ∧ W.cell? ⟨w.heap.size, 1, none⟩ = some (.slice a0 len0 cap0) ∧ W.cell? ⟨w5.heap.size, 0, none⟩ = some (.string nm0) ∧ W.cell? ⟨w5.heap.size, 1, none⟩ = some (.slice va vn vc) ∧ Below w7.heap.size w7 W))
      have HT8 := Lib.hid (fun W (hb : Below w7.heap.size w7 W) => toVol_any nm0 a0 len0 cap0 z0 W (hX8.next hb).ints HL.out hn)
      have HE8 := Lib.hid (fun W v3 (hb : Below w7.heap.size w7 W) (hv : Intv W v3 z0) => eqVol_any (.agg #[.string nm0, .slice va vn vc]) (.agg #[.string nm0, v3]) ⟨nm0, z0⟩ ⟨nm0, z0⟩ W ⟨va, vn, vc, rfl, (ints_of_v HV2.out).1, (ints_of_v HV2.out).2.1, (hV8.next hb).ints⟩ (vov_of (x := ⟨nm0, z0⟩) hv))
      have HB8 := Lib.hid (fun W (hb : Below w7.heap.size w7 W) => (hX8.next hb).bel)
      have HY8 := Lib.hid (fun W (hb : Below w7.heap.size w7 W) => hy8.below hb (Nat.le_refl _))
      have HSV8 := Lib.hid (fun W (hb : Below w7.heap.size w7 W) => hsv8.below hb (Nat.le_refl _))
      have hbr : Below w7.heap.size w7 w7 := Below.refl _ _
      clear hX8 hV8 hy8 hsv8
      go_wp2_with fail
      go_region_held3 (fun W => W.cell? ⟨w.heap.size, 0, none⟩ = some (.string nm0) ∧ W.cell? ⟨w.heap.size, 1, none⟩ = some (.slice a0 len0 cap0) ∧ W.cell? ⟨w5.heap.size, 0, none⟩ = some (.string nm0) ∧ W.cell? ⟨w5.heap.size, 1, none⟩ = some (.slice va vn vc) ∧ Below w7.heap.size w7 W) (first | (go_split_ands; first | exact HK.out _ (by assumption) | exact HK.out _ (below_drew (by assumption))))
        (first
          | (go_split_ands; go_at_call 55; refine (HT8.out _ (by assumption)).mono ?_; rintro e w8 ⟨v3, rfl, hv3, hb⟩; have hb8 := bnext (by assumption : Below w7.heap.size w7 _) hb; have hi8 := newInt_v hv3 HN.out; clear hb hv3)
          | (go_split_ands; go_at_call 56; refine (HE8.out _ _ (by assumption) (by assumption)).mono ?_; rw [sameVo_refl]; rintro e w9 ⟨rfl, hb⟩; have hb9 := bnext (by assumption : Below w7.heap.size w7 _) hb; clear hb))
      have hb9 : Below w7.heap.size w7 _ := (by go_split_ands; assumption)
      have hy9 := HY8.out _ hb9
      have hsv9 := HSV8.out _ hb9
      have hB9 := HB8.out _ hb9
      have HT9 := Lib.hid (toSlotS_any a1 len1 cap1 z1 _ hy9 HM.out hn1)
      have HSV9 := Lib.hid hsv9
      have HB9 := Lib.hid hB9
      clear hy9 hsv9 hB9 hb9
      go_split_ands
      go_wp2_with fail
      refine HT9.out.mono ?_
      rintro e w10 ⟨s3, rfl, hs3, hb10⟩
      have hE := eqSlotS_any s2 s3 z1 z1 w10 (HSV9.out.below hb10 (Nat.le_refl _)) (hs3.slv HN1.out)
      rw [sameSls_refl] at hE
      have HE := Lib.hid hE
      have HB10 := Lib.hid (HB9.out.trans (hb10.mono HB9.out.size))
      clear hE hb10 hs3
      go_wp2_with fail
      refine HE.out.mono ?_
      rintro e w11 ⟨rfl, hb11⟩
      have hB := HB10.out.trans (hb11.mono HB10.out.size)
      clear hb11
      go_wp2_with fail
      go_ret
      exact ⟨rfl, hB⟩

set_option maxRecDepth 100000 in
theorem lifted (os : Os) (started : os.Started) (H : Type) (enc : TypeId × Value → H) :
    ReturnsInHanded {} Try.checked os 20 .any (Rows.fnExactVolTextSpec.pre6 enc Try.prog Try.f20 Rows.fnExactVolTextRow.domain false) (Rows.fnExactVolTextSpec.post enc Try.prog Try.f20 false true false false) := by
  refine returnsInHanded_of_change (C := Try.checked) own started (by kernel_rfl) Try.func20
    (ChangeSpec.witness6 (enc := enc) (C := Try.checked) false ⟨#[], #[.agg #[.string ByteArray.empty, .slice none 0 0], .slice none 0 0], []⟩ 8 (by kernel_rfl) (by kernel_rfl) (by kernel_rfl) (by kernel_rfl)) ?_
  intro W base args ds gs before hval0 hW hcnd _
  have hval : ∀ (j : Nat) t v, Try.f20.params[j]? = some t → args[j]? = some v → Value.okWide Try.prog W .any base t v := hval0
  have hW' := hW
  obtain ⟨p, q, hA0, hV, rfl, hfz, hnd⟩ := hW
  have hA : DataW.TrodAll enc Try.prog W 0 (fun _ => true) true Try.f20.params.toList args.toList ds p := hA0
  rw [Try.params20] at hA hval
  obtain ⟨v0, vs0, d0, ds0, p0, q0, hargs, rfl, rfl, h0, r0⟩ := trodAll_cons hA
  obtain ⟨v1, vs1, d1, ds1, p1, q1, rfl, rfl, rfl, h1, r1⟩ := trodAll_cons r0
  obtain ⟨rfl, rfl, rfl⟩ := trodAll_nil r1
  obtain rfl : args = #[v0, v1] := by cases args; simp_all
  obtain ⟨rfl, rfl⟩ := trodVars_none hV
  obtain ⟨cs0, rfl, hsz0⟩ := okWide_struct Try.underlying65 (hval 0 65 v0 rfl rfl)
  have k0 := h0
  have lt0 : ∀ x ∈ p0, x.block < W.heap.size := by obtain ⟨m, hm⟩ := k0; exact DataW.trod_lt m _ _ _ hm
  obtain ⟨nm0, a0, len0, cap0, z0, hcs0, w0⟩ : ∃ nm0 a0 len0 cap0 z0, cs0 = #[.string nm0, .slice a0 len0 cap0] ∧ nm0.size ≤ maxLen ∧ Ints W a0 z0 ∧ z0.length = len0 ∧ len0 ≤ 9223372036854775807 := by
    obtain ⟨fuel, hf⟩ := h0
    exact open_vol hsz0 (by simpa [Value.cells] using hf)
  subst hcs0
  obtain ⟨a1, len1, cap1, rfl⟩ := okWide_slice Try.underlying59 (hval 1 59 v1 rfl rfl)
  have k1 := h1
  have lt1 : ∀ x ∈ p1, x.block < W.heap.size := by obtain ⟨m, hm⟩ := k1; exact DataW.trod_lt m _ _ _ hm
  obtain ⟨z1, w1⟩ : ∃ z1, Sls W a1 z1 ∧ z1.length = len1 ∧ len1 ≤ 9223372036854775807 ∧ ∀ i, i < len1 → (nth z1 i).text.size ≤ maxLen := by
    obtain ⟨fuel, hf⟩ := h1
    exact open_slots (by simpa [Value.cells] using hf)
  clear hA0 hval0
  refine (walk W nm0 a0 len0 cap0 z0 w0 a1 len1 cap1 z1 w1).mono fun e W' ⟨he, bel⟩ => ?_
  subst he
  exact ⟨_, rfl, _, _, _, [], _, [], hW', trodAll_mk1 (shut_bool Try.underlying4 _), (trodAll_cons_mk (Below.trod laidOut (by kernel_rfl) (of_decide_eq_true (by kernel_rfl)) k0 bel lt0) (trodAll_cons_mk (Below.trod laidOut (by kernel_rfl) (of_decide_eq_true (by kernel_rfl)) k1 bel lt1) trodAll_mk0)), rfl, bel.frame _, fun h => by cases h⟩

theorem closed : joinedFacts Try.prog 20 Try.f20 Rows.fnExactVolTextSpec Rows.fnExactVolTextRow = true := by
  unfold joinedFacts
  rewrite [head_may, head_lifts, head_make]
  kernel_rfl
theorem over : Rows.fnExactVolTextRow.holds Try.pinned (OpenSpec.ofChange Rows.fnExactVolTextSpec) :=
  OpenClaim.holds_of_wide 20 Try.f20 rfl rfl rfl rfl rfl rfl rfl ⟨rfl, rfl, rfl, rfl, rfl⟩ rfl rfl rfl rfl rfl (by kernel_rfl) Try.func20 closed
    (of_decide_eq_true (by kernel_rfl)) (by unfold Func.isWrapper; first | (rw [if_pos (by decide +kernel)]; kernel_rfl) | (rw [if_neg (by decide +kernel)]; exact ⟨rfl, rfl⟩))
    (fun os started H enc _ => lifted os started H enc)

theorem proved : Rows.FnExactVolTextSaid := over
#print axioms proved
end Go.Proofs.Ytgajhknljnhfmaa.fnExactVolText
