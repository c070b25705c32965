/- For every disk and every integer the law FnExactVolUses returns true and leaves both as they were. No condition. -/
import Derived.Test.YtgajhknljnhfmaaRows
import Derived.WalkKit
import Derived.ProofKit
import Derived.OpenShut
import Derived.ShutString
import Derived.ChangeOld
import Derived.Below
import Derived.Test.YtgajhknljnhfmaaHead
import Derived.Test.YtgajhknljnhfmaaVolV
import Derived.Deep.RegionHeld3
import Derived.ChangeArms
namespace Go.Proofs.Ytgajhknljnhfmaa.fnExactVolUses
open Go.ChangeShapes Go.WideShapes Go.ChangeAt Go.RowKit
open Go.ChangeMaps (open_string shut_string)
set_option linter.unusedVariables false

theorem own : ownKnob Try.prog.godebug = none := by kernel_rfl
theorem laidOut : laidOutB Try.prog = true := by kernel_rfl

def IsRow (k : IntKind) (w : World) (a : Option Addr) (len cap : Nat) (zs : List Int) : Prop :=
  (a = none ∧ len = 0 ∧ cap = 0 ∧ zs = []) ∨
  ∃ x, a = some x ∧ len ≤ cap ∧ cap ≤ maxLen ∧ zs.length = cap ∧ (∀ i, i < zs.length → w.cell? (x.add i) = some (.int k (zs.getD i 0))) ∧ ∀ n ∈ zs, (Lit.int k n).wf = true

set_option maxRecDepth 100000 in
set_option maxHeartbeats 800000 in
theorem walk (w : World) (nm0 : ByteArray) (a0 : Option Addr) (len0 cap0 : Nat) (z0 : List Int) (w0 : nm0.size ≤ maxLen ∧ Ints w a0 z0 ∧ z0.length = len0 ∧ len0 ≤ 9223372036854775807) (a1 : Int) (w1 : (Lit.int .i64 a1).wf = true) :
    Calls Try.prog 19 #[.agg #[.string nm0, .slice a0 len0 cap0], .int .i64 a1] w fun e w' => e = .returned (.bool true) ∧ Below w.heap.size w w' := by
  obtain ⟨hs, hx, hl, hlen⟩ := w0
  have HL := Lib.hid hl
  obtain ⟨U, hU⟩ : ∃ U, usesF ⟨nm0, z0⟩ a1 = U := ⟨_, rfl⟩
  have HU := Lib.hid hU
  have hs2 : nm0.size ≤ 9223372036854775807 := by unfold maxLen at hs; omega
  have HS := Lib.hid hs
  have bx := boxed_vol w nm0 a0 len0 cap0 z0 65 hx
  have HX := Lib.hid bx
  have HZ := Lib.hid (fun W => szVol_any nm0 a0 len0 cap0 1048576 W (by omega) (by omega) hs2 hlen)
  clear hl hs bx hx hU
  go_enter Try.func19, Try.ntmps19
  go_wp2_with fail
  refine (HZ.out _).mono ?_
  rintro e u1 ⟨r, rfl, hr, hb1⟩
  have hX1 := HX.out.next hb1
  clear hb1
  rcases hr with hr | ⟨r0, r1, r2, r3⟩
  · go_wp2_with fail
    go_ret
    exact ⟨rfl, hX1.bel⟩
  · have hn : len0 ≤ 2000000 := by omega
    have HN : Hid (z0.length ≤ 2000000) := Lib.hid (by rw [HL.out]; exact hn)
    have hc0 := hX1.c0
    have hc1 := hX1.c1
    have HT1 := Lib.hid (toVol_any nm0 a0 len0 cap0 z0 u1 hX1.ints HL.out hn)
    have HX1 := Lib.hid hX1
    clear r3 r2 hX1
    go_wp2_with fail
    refine HT1.out.mono ?_
    rintro e w2 ⟨v1, rfl, hv1, hb2⟩
    have hX2 := HX1.out.next hb2
    have HO := Lib.hid (volUsesS_v (.agg #[.string nm0, v1]) ⟨nm0, z0⟩ a1 w2 (vov_of (x := ⟨nm0, z0⟩) (newInt_v hv1 HN.out)) HS.out)
    rw [HU.out] at HO
    clear hb2 hv1 hc0 hc1
    go_wp2_with fail
    refine HO.out.mono ?_
    rintro e w3 ⟨rfl, hb3⟩
    have hX3 := hX2.next hb3
    have hc0 := hX3.c0
    have hc1 := hX3.c1
    have HT3 := Lib.hid (toVol_any nm0 a0 len0 cap0 z0 w3 hX3.ints HL.out hn)
    have HX3 := Lib.hid hX3
    clear hX2 hb3 hX3
    go_wp2_with fail
    refine HT3.out.mono ?_
    rintro e w4 ⟨v2, rfl, hv2, hb4⟩
    have hX4 := HX3.out.next hb4
    obtain ⟨va, vn, vc, rfl⟩ := newInt_slice hv2
    have HV2 := Lib.hid (newInt_v hv2 HN.out)
    have HX4 := Lib.hid hX4
    clear hb4 hc0 hc1 hX4 hv2
    have HB4 := Lib.hid (boxed_own w4 nm0 va vn vc z0 49 HV2.out)
    go_wp2_with fail
    have HO4 := Lib.hid (volUses_v (.agg #[.string nm0, .slice va vn vc]) ⟨nm0, z0⟩ a1 _ ⟨va, vn, vc, rfl, (ints_of_v HV2.out).1, (ints_of_v HV2.out).2.1, HB4.out.ints⟩ HS.out)
    rw [HU.out] at HO4
    refine HO4.out.mono ?_
    rintro e w5 ⟨rfl, hb5⟩
    have hX5 := (HX4.out.alloc (.cells #[.string nm0, .slice va vn vc] 49)).next hb5
    have hV5 := HB4.out.next hb5
    clear hb5
    have HK := Lib.hid (fun W (hb : Below w5.heap.size w5 W) => (⟨(hX5.next hb).c0, (hX5.next hb).c1, (hV5.next hb).c0, (hV5.next hb).c1, hb⟩ :
      W.cell? ⟨w.heap.size, 0, none⟩ = some (.string nm0) ∧ W.cell? ⟨w.heap.size, 1, none⟩ = some (.slice a0 len0 cap0) ∧ W.cell? ⟨w4.heap.size, 0, none⟩ = some (.string nm0) ∧ W.cell? ⟨w4.heap.size, 1, none⟩ = some (.slice va vn vc) ∧ Below w5.heap.size w5 W))
    have HT5 := Lib.hid (fun W (hb : Below w5.heap.size w5 W) => toVol_any nm0 a0 len0 cap0 z0 W (hX5.next hb).ints HL.out hn)
    have HE5 := Lib.hid (fun W v3 (hb : Below w5.heap.size w5 W) (hv : Intv W v3 z0) => eqVol_any (.agg #[.string nm0, .slice va vn vc]) (.agg #[.string nm0, v3]) ⟨nm0, z0⟩ ⟨nm0, z0⟩ W ⟨va, vn, vc, rfl, (ints_of_v HV2.out).1, (ints_of_v HV2.out).2.1, (hV5.next hb).ints⟩ (vov_of (x := ⟨nm0, z0⟩) hv))
    have HB5 := Lib.hid (fun W (hb : Below w5.heap.size w5 W) => (hX5.next hb).bel)
    have hbr : Below w5.heap.size w5 w5 := Below.refl _ _
    clear hX5 hV5
    go_wp2_with fail
    go_region_held3 (fun W => W.cell? ⟨w.heap.size, 0, none⟩ = some (.string nm0) ∧ W.cell? ⟨w.heap.size, 1, none⟩ = some (.slice a0 len0 cap0) ∧ W.cell? ⟨w4.heap.size, 0, none⟩ = some (.string nm0) ∧ W.cell? ⟨w4.heap.size, 1, none⟩ = some (.slice va vn vc) ∧ Below w5.heap.size w5 W) (first | (go_split_ands; first | exact HK.out _ (by assumption) | exact HK.out _ (below_drew (by assumption))))
      (first
        | (go_split_ands; go_at_call 55; refine (HT5.out _ (by assumption)).mono ?_; rintro e w7 ⟨v3, rfl, hv3, hb⟩; have hb7 := bnext (by assumption : Below w5.heap.size w5 _) hb; have hi3 := newInt_v hv3 HN.out; clear hb hv3)
        | (go_split_ands; go_at_call 56; refine (HE5.out _ _ (by assumption) (by assumption)).mono ?_; rw [sameVo_refl]; rintro e w8 ⟨rfl, hb⟩; have hb8 := bnext (by assumption : Below w5.heap.size w5 _) hb; clear hb))
    have hB := HB5.out _ (by go_split_ands; assumption)
    go_wp2_with fail
    go_ret
    exact ⟨rfl, hB⟩

set_option maxRecDepth 100000 in
theorem lifted (os : Os) (started : os.Started) (H : Type) (enc : TypeId × Value → H) :
    ReturnsInHanded {} Try.checked os 19 .any (Rows.fnExactVolUsesSpec.pre6 enc Try.prog Try.f19 Rows.fnExactVolUsesRow.domain false) (Rows.fnExactVolUsesSpec.post enc Try.prog Try.f19 false true false false) := by
  refine returnsInHanded_of_change (C := Try.checked) own started (by kernel_rfl) Try.func19
    (ChangeSpec.witness6 (enc := enc) (C := Try.checked) false ⟨#[], #[.agg #[.string ByteArray.empty, .slice none 0 0], .int .i64 0], []⟩ 8 (by kernel_rfl) (by kernel_rfl) (by kernel_rfl) (by kernel_rfl)) ?_
  intro W base args ds gs before hval0 hW hcnd _
  have hval : ∀ (j : Nat) t v, Try.f19.params[j]? = some t → args[j]? = some v → Value.okWide Try.prog W .any base t v := hval0
  have hW' := hW
  obtain ⟨p, q, hA0, hV, rfl, hfz, hnd⟩ := hW
  have hA : DataW.TrodAll enc Try.prog W 0 (fun _ => true) true Try.f19.params.toList args.toList ds p := hA0
  rw [Try.params19] at hA hval
  obtain ⟨v0, vs0, d0, ds0, p0, q0, hargs, rfl, rfl, h0, r0⟩ := trodAll_cons hA
  obtain ⟨v1, vs1, d1, ds1, p1, q1, rfl, rfl, rfl, h1, r1⟩ := trodAll_cons r0
  obtain ⟨rfl, rfl, rfl⟩ := trodAll_nil r1
  obtain rfl : args = #[v0, v1] := by cases args; simp_all
  obtain ⟨rfl, rfl⟩ := trodVars_none hV
  obtain ⟨cs0, rfl, hsz0⟩ := okWide_struct Try.underlying65 (hval 0 65 v0 rfl rfl)
  have k0 := h0
  have lt0 : ∀ x ∈ p0, x.block < W.heap.size := by obtain ⟨m, hm⟩ := k0; exact DataW.trod_lt m _ _ _ hm
  obtain ⟨nm0, a0, len0, cap0, z0, hcs0, w0⟩ : ∃ nm0 a0 len0 cap0 z0, cs0 = #[.string nm0, .slice a0 len0 cap0] ∧ nm0.size ≤ maxLen ∧ Ints W a0 z0 ∧ z0.length = len0 ∧ len0 ≤ 9223372036854775807 := by
    obtain ⟨fuel, hf⟩ := h0
    exact open_vol hsz0 (by simpa [Value.cells] using hf)
  subst hcs0
  obtain ⟨a1, rfl, rfl, rfl, w1⟩ := open_int Try.underlying3 (hval 1 3 v1 rfl rfl) h1
  clear hA0 hval0
  refine (walk W nm0 a0 len0 cap0 z0 w0 a1 w1).mono fun e W' ⟨he, bel⟩ => ?_
  subst he
  exact ⟨_, rfl, _, _, _, [], _, [], hW', trodAll_mk1 (shut_bool Try.underlying4 _), (trodAll_cons_mk (Below.trod laidOut (by kernel_rfl) (of_decide_eq_true (by kernel_rfl)) k0 bel lt0) (trodAll_cons_mk (shut_int Try.underlying3 w1) trodAll_mk0)), rfl, bel.frame _, fun h => by cases h⟩

theorem closed : joinedFacts Try.prog 19 Try.f19 Rows.fnExactVolUsesSpec Rows.fnExactVolUsesRow = true := by
  unfold joinedFacts
  rewrite [head_may, head_lifts, head_make]
  kernel_rfl
theorem over : Rows.fnExactVolUsesRow.holds Try.pinned (OpenSpec.ofChange Rows.fnExactVolUsesSpec) :=
  OpenClaim.holds_of_wide 19 Try.f19 rfl rfl rfl rfl rfl rfl rfl ⟨rfl, rfl, rfl, rfl, rfl⟩ rfl rfl rfl rfl rfl (by kernel_rfl) Try.func19 closed
    (of_decide_eq_true (by kernel_rfl)) (by unfold Func.isWrapper; first | (rw [if_pos (by decide +kernel)]; kernel_rfl) | (rw [if_neg (by decide +kernel)]; exact ⟨rfl, rfl⟩))
    (fun os started H enc _ => lifted os started H enc)

theorem proved : Rows.FnExactVolUsesSaid := over
#print axioms proved
end Go.Proofs.Ytgajhknljnhfmaa.fnExactVolUses
