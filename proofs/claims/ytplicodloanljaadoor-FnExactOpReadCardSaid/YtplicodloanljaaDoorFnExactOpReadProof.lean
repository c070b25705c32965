/- For every text the law FnExactOpRead returns true and leaves the program's own error as it was; the variables that the row lists are as the program's text lays them. No other condition. -/
import Derived.Test.YtplicodloanljaaDoorRows
import Derived.WalkKit
import Derived.ProofKit
import Derived.OpenShut
import Derived.ShutString
import Derived.ChangeOld
import Derived.Below
import Derived.Test.YtplicodloanljaaDoorHead
import Derived.Test.YtplicodloanljaaDoorLaid
import Derived.Test.YtplicodloanljaaDoorCards
import Derived.Test.YtplicodloanljaaDoorTie
import Derived.SevenTiedAt
import Derived.Lay
import Derived.Test.YtplicodloanljaaDoorLaidVars
import Derived.Test.YtplicodloanljaaDoorOpReadP
namespace Go.Proofs.YtplicodloanljaaDoor.fnExactOpRead
open Go.ChangeShapes Go.WideShapes Go.ChangeAt Go.RowKit
open Go.ChangeMaps (open_string shut_string)
set_option linter.unusedVariables false

theorem own : ownKnob Tryd.prog.godebug = none := by kernel_rfl
theorem laidOut : laidOutB Tryd.prog = true := by kernel_rfl

def IsRow (k : IntKind) (w : World) (a : Option Addr) (len cap : Nat) (zs : List Int) : Prop :=
  (a = none ∧ len = 0 ∧ cap = 0 ∧ zs = []) ∨
  ∃ x, a = some x ∧ len ≤ cap ∧ cap ≤ maxLen ∧ zs.length = cap ∧ (∀ i, i < zs.length → w.cell? (x.add i) = some (.int k (zs.getD i 0))) ∧ ∀ n ∈ zs, (Lit.int k n).wf = true

set_option maxRecDepth 100000 in
set_option maxHeartbeats 800000 in
theorem walk (w : World) (a0 : ByteArray) (w0 : a0.size ≤ maxLen) (pm : Addr) (hvm : Vars pm w) :
    Calls Tryd.prog 8 #[.string a0] w fun e w' => e = .returned (.bool true) ∧ Below w.heap.size w w' := by
  have hs2 : a0.size ≤ 9223372036854775807 := by unfold maxLen at w0; omega
  by_cases hbig : (1048576 : Int) < (a0.size : Int)
  · go_enter Tryd.func8, Tryd.ntmps8
    go_wp2_with fail
    go_ret
    exact ⟨rfl, Below.refl _ _⟩
  have HS := Lib.hid (fun W => opReadS a0 W w0)
  have HI := Lib.hid (fun W hv => opRead_any a0 w0 pm W hv)
  have HV := Lib.hid hvm
  clear hvm
  obtain ⟨o, b⟩ : Ov × Bool := readB a0
  generalize hr : readB a0 = r at HS HI
  obtain ⟨⟨kind, name, dest, num, text⟩, b⟩ := r
  simp only [readV, Ov.val] at HS HI
  clear hr
  have HE := Lib.hid (fun W => eqOp_refl ⟨kind, name, dest, num, text⟩ W)
  simp only [Ov.val] at HE
  go_enter Tryd.func8, Tryd.ntmps8
  go_wp2_with fail
  refine (HS.out _).mono ?_
  rintro e w2 ⟨rfl, hb2⟩
  have HX := Lib.hid (OBx.new w2 ⟨kind, name, dest, num, text⟩)
  have HB2 := Lib.hid (hb2.alloc hb2.size (.cells #[.int .i64 kind, .string name, .string dest, .int .i64 num, .string text] 24))
  have HV2 := Lib.hid (HV.out.later HB2.out)
  simp only at HX
  clear hb2
  go_wp2_with fail
  refine (HI.out _ HV2.out).mono ?_
  rintro e w3 ⟨rfl, hb3⟩
  have HX3 := Lib.hid ((HX.out.later hb3).later (new_below w3 (.cells #[.int .i64 kind, .string name, .string dest, .int .i64 num, .string text] 24)))
  have HY := Lib.hid (OBx.new w3 ⟨kind, name, dest, num, text⟩)
  have HB3 := Lib.hid ((bnext HB2.out hb3).alloc (bnext HB2.out hb3).size (.cells #[.int .i64 kind, .string name, .string dest, .int .i64 num, .string text] 24))
  simp only at HY
  have hl := (HX.out.later hb3).lt
  clear hb3 HX HB2
  obtain ⟨lt, c0, c1, c2, c3, c4, _⟩ := HX3.out.all
  obtain ⟨mt, e0, e1, e2, e3, e4, _⟩ := HY.out.all
  go_wp2_with fail
  refine (HE.out _).mono ?_
  rintro e w4 ⟨rfl, hb4⟩
  have HB4 := Lib.hid (bnext HB3.out hb4)
  have hbb : (b != b) = false := by simp
  clear hb4
  go_wp2_with fail
  go_ret
  exact ⟨rfl, HB4.out⟩

theorem met (os : Os) (args : Array Value) : laidMetH Tryd.prog Rows.fnExactOpReadRow.laid ((World.laidAll Tryd.prog os Rows.fnExactOpReadRow.laid).forCall (fun _ _ => 0) ⟨#[], args, []⟩).memory := by
  rw [MakeChecks.laidMetH_plain _ _ _ (by kernel_rfl)]
  exact laidMet_laidAll _ (by kernel_rfl) (by kernel_rfl)

set_option maxRecDepth 100000 in
theorem lifted (os : Os) (started : os.Started) (H : Type) (enc : TypeId × Value → H) :
    ReturnsInHanded {} Tryd.checked os 8 .any (fun w args => (Rows.fnExactOpReadSpec.pre enc Tryd.prog Tryd.f8 [] false w args ∧ laidMetH Tryd.prog Rows.fnExactOpReadRow.laid w) ∧ sizedMet enc Tryd.prog Tryd.f8 (OpenSpec.ofChange Rows.fnExactOpReadSpec) false w args)
      (Rows.fnExactOpReadSpec.post enc Tryd.prog Tryd.f8 false true false false) := by
  refine handed_laid (C := Tryd.checked) (X := fun w => laidMetH Tryd.prog Rows.fnExactOpReadRow.laid w) (fun _ _ hh h => h.of_heap hh) own started (by kernel_rfl) Tryd.func8
    (ChangeSpec.witness_shaped (enc := enc) (C := Tryd.checked) (os := os) (X := fun w _ => laidMetH Tryd.prog Rows.fnExactOpReadRow.laid w) false (World.laidAll Tryd.prog os Rows.fnExactOpReadRow.laid) #[.string ByteArray.empty] 8 (World.laidAll_os _ _ _) (World.shaped_of_ZipB (by kernel_rfl) (by kernel_rfl)) (by kernel_rfl) (by kernel_rfl) (by kernel_rfl) (met os _)) ?_
  intro W base args ds gs before hval0 hW hL hsh
  have hval : ∀ (j : Nat) t v, Tryd.f8.params[j]? = some t → args[j]? = some v → Value.okWide Tryd.prog W .any base t v := hval0
  have hW' := hW
  obtain ⟨p, q, hA0, hV, rfl, hfz, hnd⟩ := hW
  have hA : DataW.TrodAll enc Tryd.prog W 0 (fun _ => true) true Tryd.f8.params.toList args.toList ds p := hA0
  rw [Tryd.params8] at hA hval
  obtain ⟨v0, vs0, d0, ds0, p0, q0, hargs, rfl, rfl, h0, r0⟩ := trodAll_cons hA
  obtain ⟨rfl, rfl, rfl⟩ := trodAll_nil r0
  obtain rfl : args = #[v0] := by cases args; simp_all
  obtain ⟨d9, rfl, hv9⟩ := vars_one hV
  obtain ⟨pm, hvm⟩ := vars_of_laid hL hsh
  obtain ⟨a0, rfl, rfl, rfl, w0⟩ := open_string Tryd.underlying9 (hval 0 9 v0 rfl rfl) h0
  clear hA0 hval0
  simp only [List.append_nil] at hW'
  refine (walk W a0 w0 pm hvm).mono fun e W' ⟨he, bel⟩ => ?_
  subst he
  exact ⟨_, rfl, _, _, _, [], [], _, hW', trodAll_mk1 (shut_bool Tryd.underlying4 _), (trodAll_cons_mk (shut_string Tryd.underlying9 w0) trodAll_mk0), Below.trodVars laidOut bel (by kernel_rfl) hv9, bel.frame _, fun h => by cases h⟩

theorem closed : joinedFacts Tryd.prog 8 Tryd.f8 Rows.fnExactOpReadSpec Rows.fnExactOpReadRow = true := by
  unfold joinedFacts
  rewrite [head_may, head_lifts, head_make]
  kernel_rfl
theorem over : Rows.fnExactOpReadRow.holds Tryd.pinned (OpenSpec.ofChange Rows.fnExactOpReadSpec) :=
  OpenClaim.holds_of_wide 8 Tryd.f8 rfl rfl rfl rfl rfl rfl rfl ⟨rfl, rfl, rfl, rfl, rfl⟩ rfl rfl rfl rfl rfl (by kernel_rfl) Tryd.func8 closed
    (of_decide_eq_true (by kernel_rfl)) (by unfold Func.isWrapper; first | (rw [if_pos (by decide +kernel)]; kernel_rfl) | (rw [if_neg (by decide +kernel)]; exact ⟨rfl, rfl⟩))
    (fun os started H enc _ => lifted os started H enc)

theorem proved : Rows.FnExactOpReadCardSaid :=
  Claim7.holds_tied_plain_at .later [] [.data, .data, .data, .data, .sentinel, .sentinel, .sentinel, .pinned] true (true, "cc804952601688b809ab80a6f1cb388cd4d55860990d6773acb88f14ba794cd6") true
    over (fun _ h => by cases h) (by kernel_rfl) (fun _ h => by cases h) fnExactOpRead_row_tie rfl ⟨rfl, rfl⟩ (by kernel_rfl) rfl
    (fun f fn hf hfn => by
      obtain rfl : f = 8 := Option.some.inj ((show Tryd.prog.funcNamed "loop.example/garner/laws.FnExactOpRead" = some 8 by kernel_rfl).symm.trans hf) |>.symm
      obtain rfl : fn = Tryd.f8 := (Option.some.inj (Tryd.func8.symm.trans hfn)).symm
      exact ⟨by kernel_rfl, fun j t ht => by
        rw [Tryd.params8] at ht
        have hm : t ∈ [9] := by simpa using Array.mem_of_getElem? ht
        have hall : ([9].all fun u => !Tryd.prog.wantsStandIn u) = true := by kernel_rfl
        exact (show Tryd.prog.wantsStandIn t = false by simpa using List.all_eq_true.1 hall t hm)⟩)
    (by kernel_rfl)
#print axioms proved
end Go.Proofs.YtplicodloanljaaDoor.fnExactOpRead
