/- For every change the law FnExactOpText returns true and leaves the change as it was; the tables of Go's library that the row lists are as the program's text lays them. No other condition. -/
import Derived.Test.YtplicodloanljaaDoorRows
import Derived.WalkKit
import Derived.ProofKit
import Derived.OpenShut
import Derived.ShutString
import Derived.ChangeOld
import Derived.Below
import Derived.Test.YtplicodloanljaaDoorHead
import Derived.Test.YtplicodloanljaaDoorLaid
import Derived.Test.YtplicodloanljaaDoorCards
import Derived.Test.YtplicodloanljaaDoorTie
import Derived.SevenTiedAt
import Derived.Lay
import Derived.Test.YtplicodloanljaaDoorOpArg
import Derived.Test.YtplicodloanljaaDoorOpTextI
namespace Go.Proofs.YtplicodloanljaaDoor.fnExactOpText
open Go.ChangeShapes Go.WideShapes Go.ChangeAt Go.RowKit
open Go.ChangeMaps (open_string shut_string)
set_option linter.unusedVariables false

theorem own : ownKnob Tryd.prog.godebug = none := by kernel_rfl
theorem laidOut : laidOutB Tryd.prog = true := by kernel_rfl

def IsRow (k : IntKind) (w : World) (a : Option Addr) (len cap : Nat) (zs : List Int) : Prop :=
  (a = none ∧ len = 0 ∧ cap = 0 ∧ zs = []) ∨
  ∃ x, a = some x ∧ len ≤ cap ∧ cap ≤ maxLen ∧ zs.length = cap ∧ (∀ i, i < zs.length → w.cell? (x.add i) = some (.int k (zs.getD i 0))) ∧ ∀ n ∈ zs, (Lit.int k n).wf = true

set_option maxRecDepth 100000 in
set_option maxHeartbeats 800000 in
theorem walk (w : World) (kd0 : Int) (nm0 dt0 : ByteArray) (n0 : Int) (tx0 : ByteArray) (w0 : OpFits ⟨kd0, nm0, dt0, n0, tx0⟩) :
    Calls Tryd.prog 7 #[.agg #[.int .i64 kd0, .string nm0, .string dt0, .int .i64 n0, .string tx0]] w fun e w' => e = .returned (.bool true) ∧ Below w.heap.size w w' := by
  have HZ := Lib.hid (fun W => szOp_any ⟨kd0, nm0, dt0, n0, tx0⟩ 1048576 W (by omega) (by omega) w0)
  have HT := Lib.hid (fun W => toOp_any ⟨kd0, nm0, dt0, n0, tx0⟩ W)
  have HI := Lib.hid (fun W => opText_any ⟨kd0, nm0, dt0, n0, tx0⟩ W w0)
  have HS := Lib.hid (fun W => opTextS_any ⟨kd0, nm0, dt0, n0, tx0⟩ W w0)
  have HX := Lib.hid (boxL w ⟨kd0, nm0, dt0, n0, tx0⟩)
  simp only [Ov.val] at HZ HT HI HS HX
  generalize opT ⟨kd0, nm0, dt0, n0, tx0⟩ = b at HI HS
  generalize szF ⟨kd0, nm0, dt0, n0, tx0⟩ 1048576 = r at HZ
  obtain ⟨lt, c0, c1, c2, c3, c4⟩ := HX.out.all
  go_enter Tryd.func7, Tryd.ntmps7
  go_wp2_with fail
  refine (HZ.out _).mono ?_
  rintro e w2 ⟨rfl, hb2⟩
  have HX2 := Lib.hid (HX.out.later hb2)
  clear hb2 HX lt c0 c1 c2 c3 c4
  by_cases hr : r < 0
  · go_wp2_with fail
    go_ret
    exact ⟨rfl, HX2.out.bel⟩
  obtain ⟨lt, c0, c1, c2, c3, c4⟩ := HX2.out.all
  go_wp2_with fail
  refine (HT.out _).mono ?_
  rintro e w3 ⟨rfl, hb3⟩
  have HX3 := Lib.hid (HX2.out.later hb3)
  clear hb3 HX2 lt c0 c1 c2 c3 c4
  go_wp2_with fail
  refine (HS.out _).mono ?_
  rintro e w4 ⟨rfl, hb4⟩
  have HX4 := Lib.hid (HX3.out.later hb4)
  clear hb4 HX3
  obtain ⟨lt, c0, c1, c2, c3, c4⟩ := HX4.out.all
  go_wp2_with fail
  refine (HT.out _).mono ?_
  rintro e w5 ⟨rfl, hb5⟩
  have HX5 := Lib.hid (HX4.out.later hb5)
  clear hb5 HX4 lt c0 c1 c2 c3 c4
  go_wp2_with fail
  refine (HI.out _).mono ?_
  rintro e w6 ⟨rfl, hb6⟩
  have HX6 := Lib.hid (HX5.out.later hb6)
  clear hb6 HX5
  have hbb : (b.toList != b.toList) = false := by simp
  go_wp2_with fail
  go_ret
  exact ⟨rfl, HX6.out.bel⟩

theorem met (os : Os) (args : Array Value) : laidMetH Tryd.prog Rows.fnExactOpTextRow.laid ((World.laidAll Tryd.prog os Rows.fnExactOpTextRow.laid).forCall (fun _ _ => 0) ⟨#[], args, []⟩).memory := by
  rw [MakeChecks.laidMetH_plain _ _ _ (by kernel_rfl)]
  exact laidMet_laidAll _ (by kernel_rfl) (by kernel_rfl)

set_option maxRecDepth 100000 in
theorem lifted (os : Os) (started : os.Started) (H : Type) (enc : TypeId × Value → H) :
    ReturnsInHanded {} Tryd.checked os 7 .any (fun w args => (Rows.fnExactOpTextSpec.pre enc Tryd.prog Tryd.f7 [] false w args ∧ laidMetH Tryd.prog Rows.fnExactOpTextRow.laid w) ∧ sizedMet enc Tryd.prog Tryd.f7 (OpenSpec.ofChange Rows.fnExactOpTextSpec) false w args)
      (Rows.fnExactOpTextSpec.post enc Tryd.prog Tryd.f7 false true false false) := by
  refine handed_laid (C := Tryd.checked) (X := fun w => laidMetH Tryd.prog Rows.fnExactOpTextRow.laid w) (fun _ _ hh h => h.of_heap hh) own started (by kernel_rfl) Tryd.func7
    (ChangeSpec.witness_shaped (enc := enc) (C := Tryd.checked) (os := os) (X := fun w _ => laidMetH Tryd.prog Rows.fnExactOpTextRow.laid w) false (World.laidAll Tryd.prog os Rows.fnExactOpTextRow.laid) #[.agg #[.int .i64 0, .string ByteArray.empty, .string ByteArray.empty, .int .i64 0, .string ByteArray.empty]] 8 (World.laidAll_os _ _ _) (World.shaped_of_ZipB (by kernel_rfl) (by kernel_rfl)) (by kernel_rfl) (by kernel_rfl) (by kernel_rfl) (met os _)) ?_
  intro W base args ds gs before hval0 hW hL hsh
  have hval : ∀ (j : Nat) t v, Tryd.f7.params[j]? = some t → args[j]? = some v → Value.okWide Tryd.prog W .any base t v := hval0
  have hW' := hW
  obtain ⟨p, q, hA0, hV, rfl, hfz, hnd⟩ := hW
  have hA : DataW.TrodAll enc Tryd.prog W 0 (fun _ => true) true Tryd.f7.params.toList args.toList ds p := hA0
  rw [Tryd.params7] at hA hval
  obtain ⟨v0, vs0, d0, ds0, p0, q0, hargs, rfl, rfl, h0, r0⟩ := trodAll_cons hA
  obtain ⟨rfl, rfl, rfl⟩ := trodAll_nil r0
  obtain rfl : args = #[v0] := by cases args; simp_all
  obtain ⟨rfl, rfl⟩ := trodVars_none hV
  obtain ⟨cs0, rfl, hsz0⟩ := okWide_struct Tryd.underlying33 (hval 0 33 v0 rfl rfl)
  have k0 := h0
  have lt0 : ∀ x ∈ p0, x.block < W.heap.size := by obtain ⟨m, hm⟩ := k0; exact DataW.trod_lt m _ _ _ hm
  obtain ⟨kd0, nm0, dt0, n0, tx0, hcs0, w0⟩ : ∃ kd0 nm0 dt0 n0 tx0, cs0 = #[.int .i64 kd0, .string nm0, .string dt0, .int .i64 n0, .string tx0] ∧ OpFits ⟨kd0, nm0, dt0, n0, tx0⟩ := by
    obtain ⟨fuel, hf⟩ := h0
    exact open_op hsz0 (by simpa [Value.cells] using hf)
  subst hcs0
  clear hA0 hval0
  refine (walk W kd0 nm0 dt0 n0 tx0 w0).mono fun e W' ⟨he, bel⟩ => ?_
  subst he
  exact ⟨_, rfl, _, _, _, [], _, [], hW', trodAll_mk1 (shut_bool Tryd.underlying4 _), (trodAll_cons_mk (Below.trod laidOut (by kernel_rfl) (of_decide_eq_true (by kernel_rfl)) k0 bel lt0) trodAll_mk0), rfl, bel.frame _, fun h => by cases h⟩

theorem closed : joinedFacts Tryd.prog 7 Tryd.f7 Rows.fnExactOpTextSpec Rows.fnExactOpTextRow = true := by
  unfold joinedFacts
  rewrite [head_may, head_lifts, head_make]
  kernel_rfl
theorem over : Rows.fnExactOpTextRow.holds Tryd.pinned (OpenSpec.ofChange Rows.fnExactOpTextSpec) :=
  OpenClaim.holds_of_wide 7 Tryd.f7 rfl rfl rfl rfl rfl rfl rfl ⟨rfl, rfl, rfl, rfl, rfl⟩ rfl rfl rfl rfl rfl (by kernel_rfl) Tryd.func7 closed
    (of_decide_eq_true (by kernel_rfl)) (by unfold Func.isWrapper; first | (rw [if_pos (by decide +kernel)]; kernel_rfl) | (rw [if_neg (by decide +kernel)]; exact ⟨rfl, rfl⟩))
    (fun os started H enc _ => lifted os started H enc)

theorem proved : Rows.FnExactOpTextCardSaid :=
  Claim7.holds_tied_plain_at .later [] [.data, .data, .data] true (true, "cc804952601688b809ab80a6f1cb388cd4d55860990d6773acb88f14ba794cd6") true
    over (fun _ h => by cases h) (by kernel_rfl) (fun _ h => by cases h) fnExactOpText_row_tie rfl ⟨rfl, rfl⟩ (by kernel_rfl) rfl
    (fun f fn hf hfn => by
      obtain rfl : f = 7 := Option.some.inj ((show Tryd.prog.funcNamed "loop.example/garner/laws.FnExactOpText" = some 7 by kernel_rfl).symm.trans hf) |>.symm
      obtain rfl : fn = Tryd.f7 := (Option.some.inj (Tryd.func7.symm.trans hfn)).symm
      exact ⟨by kernel_rfl, fun j t ht => by
        rw [Tryd.params7] at ht
        have hm : t ∈ [33] := by simpa using Array.mem_of_getElem? ht
        have hall : ([33].all fun u => !Tryd.prog.wantsStandIn u) = true := by kernel_rfl
        exact (show Tryd.prog.wantsStandIn t = false by simpa using List.all_eq_true.1 hall t hm)⟩)
    (by kernel_rfl)
#print axioms proved
end Go.Proofs.YtplicodloanljaaDoor.fnExactOpText
