/- For every change the law FnExactOpOk returns true and leaves the change as it was. No condition. -/
import Derived.Test.YtplicodloanljaaRows
import Derived.WalkKit
import Derived.ProofKit
import Derived.OpenShut
import Derived.ShutString
import Derived.ChangeOld
import Derived.Below
import Derived.Test.YtplicodloanljaaHead
import Derived.Test.YtplicodloanljaaOpArg
import Derived.Test.YtplicodloanljaaOpOk
namespace Go.Proofs.Ytplicodloanljaa.fnExactOpOk
open Go.ChangeShapes Go.WideShapes Go.ChangeAt Go.RowKit
open Go.ChangeMaps (open_string shut_string)
set_option linter.unusedVariables false

theorem own : ownKnob Try.prog.godebug = none := by kernel_rfl
theorem laidOut : laidOutB Try.prog = true := by kernel_rfl

def IsRow (k : IntKind) (w : World) (a : Option Addr) (len cap : Nat) (zs : List Int) : Prop :=
  (a = none ∧ len = 0 ∧ cap = 0 ∧ zs = []) ∨
  ∃ x, a = some x ∧ len ≤ cap ∧ cap ≤ maxLen ∧ zs.length = cap ∧ (∀ i, i < zs.length → w.cell? (x.add i) = some (.int k (zs.getD i 0))) ∧ ∀ n ∈ zs, (Lit.int k n).wf = true

set_option maxRecDepth 100000 in
set_option maxHeartbeats 800000 in
theorem walk (w : World) (kd0 : Int) (nm0 dt0 : ByteArray) (n0 : Int) (tx0 : ByteArray) (w0 : OpFits ⟨kd0, nm0, dt0, n0, tx0⟩) :
    Calls Try.prog 4 #[.agg #[.int .i64 kd0, .string nm0, .string dt0, .int .i64 n0, .string tx0]] w fun e w' => e = .returned (.bool true) ∧ Below w.heap.size w w' := by
  have HZ := Lib.hid (fun W => szOp_any ⟨kd0, nm0, dt0, n0, tx0⟩ 1048576 W (by omega) (by omega) w0)
  have HT := Lib.hid (fun W => toOp_any ⟨kd0, nm0, dt0, n0, tx0⟩ W)
  have HI := Lib.hid (fun W => opOk_any ⟨kd0, nm0, dt0, n0, tx0⟩ W w0)
  have HS := Lib.hid (fun W => opOkS_any ⟨kd0, nm0, dt0, n0, tx0⟩ W w0)
  have HX := Lib.hid (boxL w ⟨kd0, nm0, dt0, n0, tx0⟩)
  simp only [Ov.val] at HZ HT HI HS HX
  generalize opB ⟨kd0, nm0, dt0, n0, tx0⟩ = b at HI HS
  generalize szF ⟨kd0, nm0, dt0, n0, tx0⟩ 1048576 = r at HZ
  obtain ⟨lt, c0, c1, c2, c3, c4⟩ := HX.out.all
  go_enter Try.func4, Try.ntmps4
  go_wp2_with fail
  refine (HZ.out _).mono ?_
  rintro e w2 ⟨rfl, hb2⟩
  have HX2 := Lib.hid (HX.out.later hb2)
  clear hb2 HX lt c0 c1 c2 c3 c4
  by_cases hr : r < 0
  · go_wp2_with fail
    go_ret
    exact ⟨rfl, HX2.out.bel⟩
  obtain ⟨lt, c0, c1, c2, c3, c4⟩ := HX2.out.all
  go_wp2_with fail
  refine (HT.out _).mono ?_
  rintro e w3 ⟨rfl, hb3⟩
  have HX3 := Lib.hid (HX2.out.later hb3)
  clear hb3 HX2 lt c0 c1 c2 c3 c4
  go_wp2_with fail
  refine (HS.out _).mono ?_
  rintro e w4 ⟨rfl, hb4⟩
  have HX4 := Lib.hid (HX3.out.later hb4)
  clear hb4 HX3
  obtain ⟨lt, c0, c1, c2, c3, c4⟩ := HX4.out.all
  go_wp2_with fail
  refine (HT.out _).mono ?_
  rintro e w5 ⟨rfl, hb5⟩
  have HX5 := Lib.hid (HX4.out.later hb5)
  clear hb5 HX4 lt c0 c1 c2 c3 c4
  go_wp2_with fail
  refine (HI.out _).mono ?_
  rintro e w6 ⟨rfl, hb6⟩
  have HX6 := Lib.hid (HX5.out.later hb6)
  clear hb6 HX5
  cases b
  all_goals (
    go_wp2_with fail
    go_ret
    exact ⟨rfl, HX6.out.bel⟩)

set_option maxRecDepth 100000 in
theorem lifted (os : Os) (started : os.Started) (H : Type) (enc : TypeId × Value → H) :
    ReturnsInHanded {} Try.checked os 4 .any (Rows.fnExactOpOkSpec.pre6 enc Try.prog Try.f4 Rows.fnExactOpOkRow.domain false) (Rows.fnExactOpOkSpec.post enc Try.prog Try.f4 false true false false) := by
  refine returnsInHanded_of_change (C := Try.checked) own started (by kernel_rfl) Try.func4
    (ChangeSpec.witness6 (enc := enc) (C := Try.checked) false ⟨#[], #[.agg #[.int .i64 0, .string ByteArray.empty, .string ByteArray.empty, .int .i64 0, .string ByteArray.empty]], []⟩ 8 (by kernel_rfl) (by kernel_rfl) (by kernel_rfl) (by kernel_rfl)) ?_
  intro W base args ds gs before hval0 hW hcnd _
  have hval : ∀ (j : Nat) t v, Try.f4.params[j]? = some t → args[j]? = some v → Value.okWide Try.prog W .any base t v := hval0
  have hW' := hW
  obtain ⟨p, q, hA0, hV, rfl, hfz, hnd⟩ := hW
  have hA : DataW.TrodAll enc Try.prog W 0 (fun _ => true) true Try.f4.params.toList args.toList ds p := hA0
  rw [Try.params4] at hA hval
  obtain ⟨v0, vs0, d0, ds0, p0, q0, hargs, rfl, rfl, h0, r0⟩ := trodAll_cons hA
  obtain ⟨rfl, rfl, rfl⟩ := trodAll_nil r0
  obtain rfl : args = #[v0] := by cases args; simp_all
  obtain ⟨rfl, rfl⟩ := trodVars_none hV
  obtain ⟨cs0, rfl, hsz0⟩ := okWide_struct Try.underlying28 (hval 0 28 v0 rfl rfl)
  have k0 := h0
  have lt0 : ∀ x ∈ p0, x.block < W.heap.size := by obtain ⟨m, hm⟩ := k0; exact DataW.trod_lt m _ _ _ hm
  obtain ⟨kd0, nm0, dt0, n0, tx0, hcs0, w0⟩ : ∃ kd0 nm0 dt0 n0 tx0, cs0 = #[.int .i64 kd0, .string nm0, .string dt0, .int .i64 n0, .string tx0] ∧ OpFits ⟨kd0, nm0, dt0, n0, tx0⟩ := by
    obtain ⟨fuel, hf⟩ := h0
    exact open_op hsz0 (by simpa [Value.cells] using hf)
  subst hcs0
  clear hA0 hval0
  refine (walk W kd0 nm0 dt0 n0 tx0 w0).mono fun e W' ⟨he, bel⟩ => ?_
  subst he
  exact ⟨_, rfl, _, _, _, [], _, [], hW', trodAll_mk1 (shut_bool Try.underlying4 _), (trodAll_cons_mk (Below.trod laidOut (by kernel_rfl) (of_decide_eq_true (by kernel_rfl)) k0 bel lt0) trodAll_mk0), rfl, bel.frame _, fun h => by cases h⟩

theorem closed : joinedFacts Try.prog 4 Try.f4 Rows.fnExactOpOkSpec Rows.fnExactOpOkRow = true := by
  unfold joinedFacts
  rewrite [head_may, head_lifts, head_make]
  kernel_rfl
theorem over : Rows.fnExactOpOkRow.holds Try.pinned (OpenSpec.ofChange Rows.fnExactOpOkSpec) :=
  OpenClaim.holds_of_wide 4 Try.f4 rfl rfl rfl rfl rfl rfl rfl ⟨rfl, rfl, rfl, rfl, rfl⟩ rfl rfl rfl rfl rfl (by kernel_rfl) Try.func4 closed
    (of_decide_eq_true (by kernel_rfl)) (by unfold Func.isWrapper; first | (rw [if_pos (by decide +kernel)]; kernel_rfl) | (rw [if_neg (by decide +kernel)]; exact ⟨rfl, rfl⟩))
    (fun os started H enc _ => lifted os started H enc)

theorem proved : Rows.FnExactOpOkSaid := over
#print axioms proved
end Go.Proofs.Ytplicodloanljaa.fnExactOpOk
