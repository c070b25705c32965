/- For every slice of slots and every string the law FnExactStorePut returns true and leaves both as they were. No condition. -/
import Derived.Test.YtgajhknljnhfmaaRows
import Derived.WalkKit
import Derived.ProofKit
import Derived.OpenShut
import Derived.ShutString
import Derived.ChangeOld
import Derived.Below
import Derived.Test.YtgajhknljnhfmaaHead
import Derived.Test.YtgajhknljnhfmaaStoreV
namespace Go.Proofs.Ytgajhknljnhfmaa.fnExactStorePut
open Go.ChangeShapes Go.WideShapes Go.ChangeAt Go.RowKit
open Go.ChangeMaps (open_string shut_string)
set_option linter.unusedVariables false

theorem own : ownKnob Try.prog.godebug = none := by kernel_rfl
theorem laidOut : laidOutB Try.prog = true := by kernel_rfl

def IsRow (k : IntKind) (w : World) (a : Option Addr) (len cap : Nat) (zs : List Int) : Prop :=
  (a = none ∧ len = 0 ∧ cap = 0 ∧ zs = []) ∨
  ∃ x, a = some x ∧ len ≤ cap ∧ cap ≤ maxLen ∧ zs.length = cap ∧ (∀ i, i < zs.length → w.cell? (x.add i) = some (.int k (zs.getD i 0))) ∧ ∀ n ∈ zs, (Lit.int k n).wf = true

set_option maxRecDepth 100000 in
set_option maxHeartbeats 800000 in
theorem walk (w : World) (a0 : Option Addr) (len0 cap0 : Nat) (z0 : List Sl) (w0 : Sls w a0 z0 ∧ z0.length = len0 ∧ len0 ≤ 9223372036854775807 ∧ ∀ i, i < len0 → (nth z0 i).text.size ≤ maxLen) (a1 : ByteArray) (w1 : a1.size ≤ maxLen) :
    Calls Try.prog 16 #[.slice a0 len0 cap0, .string a1] w fun e w' => e = .returned (.bool true) ∧ Below w.heap.size w w' := by
  obtain ⟨hx, hl, hlen, ht⟩ := w0
  have HT : Hid (Fits z0) := Lib.hid (by unfold Fits; rw [hl]; exact ht)
  have HL := Lib.hid hl
  have HZ := Lib.hid (fun W hX => szSlotS_any a0 len0 cap0 z0 1048576 W hX hl hlen (by omega) (by omega) ht)
  have HX : Hid (∀ W, Below w.heap.size w W → Sls W a0 z0) := Lib.hid (fun W hB => hx.below hB (Nat.le_refl _))
  clear ht hl
  by_cases hbig : (1048576 : Int) < a1.size
  · go_enter Try.func16, Try.ntmps16
    go_wp2_with fail
    go_ret
    exact ⟨rfl, Below.refl _ _⟩
  go_enter Try.func16, Try.ntmps16
  go_wp2_with fail
  refine (HZ.out w hx).mono ?_
  rintro e u1 ⟨r, rfl, hr, hB1⟩
  rcases hr with hr | ⟨r0, r1, r2, r3⟩
  · go_wp2_with fail
    go_ret
    exact ⟨rfl, hB1⟩
  have hn : len0 ≤ 2000000 := by omega
  have hn2 : len0 ≤ 1048576 := by omega
  have HN : Hid (z0.length ≤ 2000000) := Lib.hid (by rw [HL.out]; exact hn)
  obtain ⟨R, hR⟩ : ∃ R, putB z0 a1 = R := ⟨_, rfl⟩
  have HR := Lib.hid hR
  have HP : Hid (R.1.length ≤ 1048576) := Lib.hid (by rw [← hR]; exact Nat.le_trans (putB_len z0 a1) (by rw [HL.out]; exact hn2))
  have HP2 : Hid (R.1.length ≤ 2000000) := Lib.hid (by have := HP.out; omega)
  clear r3 r2 hR hx
  go_wp2_with fail
  refine (toSlotS_any a0 len0 cap0 z0 u1 (HX.out _ hB1) HL.out hn).mono ?_
  rintro e u2 ⟨v1, rfl, hv1, hb2⟩
  have hB2 := bnext hB1 hb2
  go_wp2_with fail
  refine (storePutS_v v1 z0 a1 u2 (hv1.slv HN.out) HT.out w1).mono ?_
  rw [HR.out]
  rintro e u3 ⟨vw, rfl, hvw, hb3⟩
  have hB3 := bnext hB2 hb3
  have how := hvw.own
  have es3 : u2.heap.size ≤ u3.heap.size := hb3.size
  have es2 : w.heap.size ≤ u2.heap.size := hB2.size
  clear hb2 hb3 hv1 hvw hB1 hB2
  go_wp2_with fail
  refine (toSlotS_any a0 len0 cap0 z0 u3 (HX.out _ hB3) HL.out hn).mono ?_
  rintro e u4 ⟨vx, rfl, hvx, hb4⟩
  have hB4 := bnext hB3 hb4
  have hox := hvx.own
  have how4 := how.next hb4 (Nat.le_refl _)
  have es4 : u3.heap.size ≤ u4.heap.size := hb4.size
  clear hb4 how hB3
  go_wp2_with fail
  refine (storePut_v vx z0 a1 u4 (hvx.slv HN.out) HT.out w1).mono ?_
  rw [HR.out]
  rintro e u5 ⟨vg, rfl, hvg, hb5⟩
  have hB5 := bnext hB4 hb5
  have hog := hvg.own
  have how5 := how4.next hb5 (by omega)
  have hox5 := hox.next hb5 (Nat.le_refl _)
  have es5 : u4.heap.size ≤ u5.heap.size := hb5.size
  clear hb5 how4 hox hvx hvg hB4
  go_wp2_with fail
  refine (eqSlotS_same vg vw R.1 u5 (hog.slv HP2.out) (how5.slv HP2.out)).mono ?_
  rintro e u6 ⟨rfl, hb6⟩
  have hB6 := bnext hB5 hb6
  have hog6 := hog.next hb6 (Nat.le_refl _)
  have how6 := how5.next hb6 (by omega)
  have hox6 := hox5.next hb6 (by omega)
  have es6 : u5.heap.size ≤ u6.heap.size := hb6.size
  clear hb6 hog how5 hox5 hB5
  go_wp2_with fail
  refine (toSlotS_any a0 len0 cap0 z0 u6 (HX.out _ hB6) HL.out hn).mono ?_
  rintro e u7 ⟨vy, rfl, hvy, hb7⟩
  have hB7 := bnext hB6 hb7
  have hog7 := hog6.next hb7 (by omega)
  have how7 := how6.next hb7 (by omega)
  have hox7 := hox6.next hb7 (by omega)
  have es7 : u6.heap.size ≤ u7.heap.size := hb7.size
  clear hb7 hog6 how6 hox6 hB6
  go_wp2_with fail
  refine (eqSlotS_same vx vy z0 u7 (hox7.slv HN.out) (hvy.slv HN.out)).mono ?_
  rintro e u8 ⟨rfl, hb8⟩
  have hB8 := bnext hB7 hb8
  have hog8 := hog7.next hb8 (by omega)
  have how8 := how7.next hb8 (by omega)
  have hox8 := hox7.next hb8 (by omega)
  have es8 : u7.heap.size ≤ u8.heap.size := hb8.size
  clear hb8 hog7 how7 hox7 hvy hB7
  go_wp2_with fail
  refine (markSlotS_any u3.heap.size u4.heap.size 1 vx z0 u8 hox8 HN.out (by omega)).mono ?_
  rintro e u9 ⟨rfl, _, hk9⟩
  have hB9 := hk9.below hB8 (by omega) hB8.size
  have hog9 := hog8.keeps hk9 (.inr (Nat.le_refl _))
  have how9 := how8.keeps hk9 (.inl (Nat.le_refl _))
  have es9 : u8.heap.size ≤ u9.heap.size := hk9.size
  clear hk9 hog8 how8 hox8 hB8
  have hneg : ¬ ((1 + 2 * z0.length : Nat) : Int) < 0 := by omega
  go_wp2_with fail
  refine (eqSlotS_same vg vw R.1 u9 (hog9.slv HP2.out) (how9.slv HP2.out)).mono ?_
  rintro e u10 ⟨rfl, hb10⟩
  have hB10 := bnext hB9 hb10
  have hog10 := hog9.next hb10 (by omega)
  have how10 := how9.next hb10 (by omega)
  have es10 : u9.heap.size ≤ u10.heap.size := hb10.size
  clear hb10 hog9 how9 hB9
  go_wp2_with fail
  refine (markSlotS_any u4.heap.size u5.heap.size 1 vg R.1 u10 hog10 HP2.out (by omega)).mono ?_
  rintro e u11 ⟨rfl, ⟨ys, hys, hyl, hym⟩, hk11⟩
  have hB11 := hk11.below hB10 (by omega) hB10.size
  have how11 := how10.keeps hk11 (.inl (by omega))
  have es11 : u10.heap.size ≤ u11.heap.size := hk11.size
  have HYL := Lib.hid hyl
  have HYN : Hid (ys.length ≤ 2000000) := Lib.hid (by rw [hyl]; exact HP2.out)
  have HYM := Lib.hid hym
  clear hk11 hog10 how10 hB10 hyl hym
  go_wp2_with fail
  have hh := heldSlotS_any u4.heap.size u5.heap.size 1 vg ys u11 hys HYN.out (by omega) HYM.out
  rw [HYL.out] at hh
  refine hh.mono ?_
  rintro e u12 ⟨rfl, hb12⟩
  have hB12 := bnext hB11 hb12
  have hys12 := hys.next hb12 (by omega)
  have how12 := how11.next hb12 (by omega)
  have es12 : u11.heap.size ≤ u12.heap.size := hb12.size
  clear hb12 hys how11 hB11 hh
  have hpos : ¬ ((1 + 2 * R.1.length : Nat) : Int) < 0 := by omega
  go_wp2_with fail
  refine (toSlotS_any a0 len0 cap0 z0 u12 (HX.out _ hB12) HL.out hn).mono ?_
  rintro e u13 ⟨vz, rfl, hvz, hb13⟩
  have hB13 := bnext hB12 hb13
  have hys13 := hys12.next hb13 (by omega)
  have how13 := how12.next hb13 (by omega)
  have es13 : u12.heap.size ≤ u13.heap.size := hb13.size
  clear hb13 hys12 how12 hB12
  go_wp2_with fail
  refine (storePut_v vz z0 a1 u13 (hvz.slv HN.out) HT.out w1).mono ?_
  rw [HR.out]
  rintro e u14 ⟨vh, rfl, hvh, hb14⟩
  have hB14 := bnext hB13 hb14
  have hys14 := hys13.next hb14 (by omega)
  have how14 := how13.next hb14 (by omega)
  have es14 : u13.heap.size ≤ u14.heap.size := hb14.size
  clear hb14 hys13 how13 hB13 hvz
  go_wp2_with fail
  refine (eqSlotS_same vh vw R.1 u14 (hvh.slv HP2.out) (how14.slv HP2.out)).mono ?_
  rintro e u15 ⟨rfl, hb15⟩
  have hB15 := bnext hB14 hb15
  have hys15 := hys14.next hb15 (by omega)
  have es15 : u14.heap.size ≤ u15.heap.size := hb15.size
  clear hb15 hys14 how14 hB14 hvh
  go_wp2_with fail
  have hh := heldSlotS_any u4.heap.size u5.heap.size 1 vg ys u15 hys15 HYN.out (by omega) HYM.out
  rw [HYL.out] at hh
  refine hh.mono ?_
  rintro e u16 ⟨rfl, hb16⟩
  have hB16 := bnext hB15 hb16
  clear hh
  go_wp2_with fail
  go_ret
  exact ⟨rfl, hB16⟩

set_option maxRecDepth 100000 in
theorem lifted (os : Os) (started : os.Started) (H : Type) (enc : TypeId × Value → H) :
    ReturnsInHanded {} Try.checked os 16 .any (Rows.fnExactStorePutSpec.pre6 enc Try.prog Try.f16 Rows.fnExactStorePutRow.domain false) (Rows.fnExactStorePutSpec.post enc Try.prog Try.f16 false true false false) := by
  refine returnsInHanded_of_change (C := Try.checked) own started (by kernel_rfl) Try.func16
    (ChangeSpec.witness6 (enc := enc) (C := Try.checked) false ⟨#[], #[.slice none 0 0, .string ByteArray.empty], []⟩ 8 (by kernel_rfl) (by kernel_rfl) (by kernel_rfl) (by kernel_rfl)) ?_
  intro W base args ds gs before hval0 hW hcnd _
  have hval : ∀ (j : Nat) t v, Try.f16.params[j]? = some t → args[j]? = some v → Value.okWide Try.prog W .any base t v := hval0
  have hW' := hW
  obtain ⟨p, q, hA0, hV, rfl, hfz, hnd⟩ := hW
  have hA : DataW.TrodAll enc Try.prog W 0 (fun _ => true) true Try.f16.params.toList args.toList ds p := hA0
  rw [Try.params16] at hA hval
  obtain ⟨v0, vs0, d0, ds0, p0, q0, hargs, rfl, rfl, h0, r0⟩ := trodAll_cons hA
  obtain ⟨v1, vs1, d1, ds1, p1, q1, rfl, rfl, rfl, h1, r1⟩ := trodAll_cons r0
  obtain ⟨rfl, rfl, rfl⟩ := trodAll_nil r1
  obtain rfl : args = #[v0, v1] := by cases args; simp_all
  obtain ⟨rfl, rfl⟩ := trodVars_none hV
  obtain ⟨a0, len0, cap0, rfl⟩ := okWide_slice Try.underlying59 (hval 0 59 v0 rfl rfl)
  have k0 := h0
  have lt0 : ∀ x ∈ p0, x.block < W.heap.size := by obtain ⟨m, hm⟩ := k0; exact DataW.trod_lt m _ _ _ hm
  obtain ⟨z0, w0⟩ : ∃ z0, Sls W a0 z0 ∧ z0.length = len0 ∧ len0 ≤ 9223372036854775807 ∧ ∀ i, i < len0 → (nth z0 i).text.size ≤ maxLen := by
    obtain ⟨fuel, hf⟩ := h0
    exact open_slots (by simpa [Value.cells] using hf)
  obtain ⟨a1, rfl, rfl, rfl, w1⟩ := open_string Try.underlying9 (hval 1 9 v1 rfl rfl) h1
  clear hA0 hval0
  refine (walk W a0 len0 cap0 z0 w0 a1 w1).mono fun e W' ⟨he, bel⟩ => ?_
  subst he
  exact ⟨_, rfl, _, _, _, [], _, [], hW', trodAll_mk1 (shut_bool Try.underlying4 _), (trodAll_cons_mk (Below.trod laidOut (by kernel_rfl) (of_decide_eq_true (by kernel_rfl)) k0 bel lt0) (trodAll_cons_mk (shut_string Try.underlying9 w1) trodAll_mk0)), rfl, bel.frame _, fun h => by cases h⟩

theorem closed : joinedFacts Try.prog 16 Try.f16 Rows.fnExactStorePutSpec Rows.fnExactStorePutRow = true := by
  unfold joinedFacts
  rewrite [head_may, head_lifts, head_make]
  kernel_rfl
theorem over : Rows.fnExactStorePutRow.holds Try.pinned (OpenSpec.ofChange Rows.fnExactStorePutSpec) :=
  OpenClaim.holds_of_wide 16 Try.f16 rfl rfl rfl rfl rfl rfl rfl ⟨rfl, rfl, rfl, rfl, rfl⟩ rfl rfl rfl rfl rfl (by kernel_rfl) Try.func16 closed
    (of_decide_eq_true (by kernel_rfl)) (by unfold Func.isWrapper; first | (rw [if_pos (by decide +kernel)]; kernel_rfl) | (rw [if_neg (by decide +kernel)]; exact ⟨rfl, rfl⟩))
    (fun os started H enc _ => lifted os started H enc)

theorem proved : Rows.FnExactStorePutSaid := over
#print axioms proved
end Go.Proofs.Ytgajhknljnhfmaa.fnExactStorePut
