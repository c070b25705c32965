/- For every number the law FnExactNodeNew returns true and leaves all that was there as it was. No condition. -/
import Derived.Test.YtjbmhmlmgihplaaRows
import Derived.WalkKit
import Derived.ProofKit
import Derived.OpenShut
import Derived.ShutString
import Derived.ChangeOld
import Derived.Below
import Derived.Test.YtjbmhmlmgihplaaHead
import Derived.Test.YtjbmhmlmgihplaaNodeNewI
namespace Go.Proofs.Ytjbmhmlmgihplaa.fnExactNodeNew
open Go.ChangeShapes Go.WideShapes Go.ChangeAt Go.RowKit
open Go.ChangeMaps (open_string shut_string)
set_option linter.unusedVariables false

theorem own : ownKnob Try.prog.godebug = none := by kernel_rfl
theorem laidOut : laidOutB Try.prog = true := by kernel_rfl

def IsRow (k : IntKind) (w : World) (a : Option Addr) (len cap : Nat) (zs : List Int) : Prop :=
  (a = none ∧ len = 0 ∧ cap = 0 ∧ zs = []) ∨
  ∃ x, a = some x ∧ len ≤ cap ∧ cap ≤ maxLen ∧ zs.length = cap ∧ (∀ i, i < zs.length → w.cell? (x.add i) = some (.int k (zs.getD i 0))) ∧ ∀ n ∈ zs, (Lit.int k n).wf = true

set_option maxRecDepth 100000 in
set_option maxHeartbeats 800000 in
theorem walk (w : World) (a0 : Int) (w0 : (Lit.int .i64 a0).wf = true) :
    Calls Try.prog 3 #[.int .i64 a0] w fun e w' => e = .returned (.bool true) ∧ Below w.heap.size w w' := by
  generalize hU : newUp a0 = U at *
  have HM := Lib.hid (fun W => nodeNewS_any a0 W)
  have HI := Lib.hid (fun W => nodeNew_any a0 W)
  simp only [hU] at HM HI
  clear hU
  generalize newLead a0 = L at *
  generalize newTerm a0 = T at *
  go_enter Try.func3, Try.ntmps3
  go_wp2_with fail
  refine (HM.out _).mono ?_
  rintro e u3 ⟨aw, cw, rfl, hb3⟩
  have BW := Lib.hid (boxN_new u3 U L L T aw cw 24)
  have HB := Lib.hid (nodeNext hb3 ((Below.refl u3.heap.size u3).alloc (Nat.le_refl _) (.cells #[.bool U, .int .i64 T, .bool L, .bool L, .slice aw 0 cw] 24)))
  clear hb3
  go_wp2_with fail
  refine (HI.out _).mono ?_
  rintro e u5 ⟨ag, cg, rfl, hb5⟩
  have BG5 := Lib.hid (boxN_new u5 U L L T ag cg 24)
  have BW5 := Lib.hid ((BW.out.later hb5).alloc (.cells #[.bool U, .int .i64 T, .bool L, .bool L, .slice ag 0 cg] 24))
  have HB5 := Lib.hid (nodeNext (nodeNext HB.out hb5) ((Below.refl u5.heap.size u5).alloc (Nat.le_refl _) (.cells #[.bool U, .int .i64 T, .bool L, .bool L, .slice ag 0 cg] 24)))
  clear hb5 BW HB
  have c0 := BG5.out.c0
  have c1 := BG5.out.c1
  have c2 := BG5.out.c2
  have c3 := BG5.out.c3
  have c4 := BG5.out.c4
  have d0 := BW5.out.c0
  have d1 := BW5.out.c1
  have d2 := BW5.out.c2
  have d3 := BW5.out.c3
  have d4 := BW5.out.c4
  go_wp2_with fail
  clear c0 c1 c2 c3 c4 d0 d1 d2 d3 d4
  refine (eqNode_nil U L L T ag aw cg cw _).mono ?_
  rintro e u6 ⟨rfl, hb6⟩
  have BG6 := Lib.hid (BG5.out.later hb6)
  have BW6 := Lib.hid (BW5.out.later hb6)
  have HB6 := Lib.hid (nodeNext HB5.out hb6)
  clear hb6 BG5 BW5 HB5
  have c0 := BG6.out.c0
  have c1 := BG6.out.c1
  have c2 := BG6.out.c2
  have c3 := BG6.out.c3
  have c4 := BG6.out.c4
  go_wp2_with fail
  clear c0 c1 c2 c3 c4
  refine (markNode_nil U L L T ag cg 1 _).mono ?_
  rintro e u7 ⟨rfl, hb7⟩
  have BG7 := Lib.hid (BG6.out.later hb7)
  have BW7 := Lib.hid (BW6.out.later hb7)
  have HB7 := Lib.hid (nodeNext HB6.out hb7)
  clear hb7 BG6 BW6 HB6
  have c0 := BG7.out.c0
  have c1 := BG7.out.c1
  have c2 := BG7.out.c2
  have c3 := BG7.out.c3
  have c4 := BG7.out.c4
  go_wp2_with fail
  clear c0 c1 c2 c3 c4
  refine (heldNode_nil U L L T ag cg 1 _).mono ?_
  rintro e u8 ⟨rfl, hb8⟩
  have BG8 := Lib.hid (BG7.out.later hb8)
  have BW8 := Lib.hid (BW7.out.later hb8)
  have HB8 := Lib.hid (nodeNext HB7.out hb8)
  clear hb8 BG7 BW7 HB7
  go_wp2_with fail
  refine (HI.out _).mono ?_
  rintro e u9 ⟨ah, ch, rfl, hb9⟩
  have BH9 := Lib.hid (boxN_new u9 U L L T ah ch 24)
  have BW9 := Lib.hid ((BW8.out.later hb9).alloc (.cells #[.bool U, .int .i64 T, .bool L, .bool L, .slice ah 0 ch] 24))
  have BG9 := Lib.hid ((BG8.out.later hb9).alloc (.cells #[.bool U, .int .i64 T, .bool L, .bool L, .slice ah 0 ch] 24))
  have HB9 := Lib.hid (nodeNext (nodeNext HB8.out hb9) ((Below.refl u9.heap.size u9).alloc (Nat.le_refl _) (.cells #[.bool U, .int .i64 T, .bool L, .bool L, .slice ah 0 ch] 24)))
  clear hb9 BW8 BG8 HB8
  have c0 := BH9.out.c0
  have c1 := BH9.out.c1
  have c2 := BH9.out.c2
  have c3 := BH9.out.c3
  have c4 := BH9.out.c4
  have d0 := BW9.out.c0
  have d1 := BW9.out.c1
  have d2 := BW9.out.c2
  have d3 := BW9.out.c3
  have d4 := BW9.out.c4
  go_wp2_with fail
  clear c0 c1 c2 c3 c4 d0 d1 d2 d3 d4
  refine (eqNode_nil U L L T ah aw ch cw _).mono ?_
  rintro e u10 ⟨rfl, hb10⟩
  have BG10 := Lib.hid (BG9.out.later hb10)
  have BW10 := Lib.hid (BW9.out.later hb10)
  have HB10 := Lib.hid (nodeNext HB9.out hb10)
  clear hb10 BG9 BW9 HB9
  have c0 := BG10.out.c0
  have c1 := BG10.out.c1
  have c2 := BG10.out.c2
  have c3 := BG10.out.c3
  have c4 := BG10.out.c4
  go_wp2_with fail
  clear c0 c1 c2 c3 c4
  refine (heldNode_nil U L L T ag cg 1 _).mono ?_
  rintro e u11 ⟨rfl, hb11⟩
  have hB := nodeNext HB10.out hb11
  clear hb11 HB10
  go_wp2_with fail
  go_ret
  exact ⟨rfl, hB⟩

set_option maxRecDepth 100000 in
theorem lifted (os : Os) (started : os.Started) (H : Type) (enc : TypeId × Value → H) :
    ReturnsInHanded {} Try.checked os 3 .any (Rows.fnExactNodeNewSpec.pre6 enc Try.prog Try.f3 Rows.fnExactNodeNewRow.domain false) (Rows.fnExactNodeNewSpec.post enc Try.prog Try.f3 false true false false) := by
  refine returnsInHanded_of_change (C := Try.checked) own started (by kernel_rfl) Try.func3
    (ChangeSpec.witness6 (enc := enc) (C := Try.checked) false ⟨#[], #[.int .i64 0], []⟩ 8 (by kernel_rfl) (by kernel_rfl) (by kernel_rfl) (by kernel_rfl)) ?_
  intro W base args ds gs before hval0 hW hcnd _
  have hval : ∀ (j : Nat) t v, Try.f3.params[j]? = some t → args[j]? = some v → Value.okWide Try.prog W .any base t v := hval0
  have hW' := hW
  obtain ⟨p, q, hA0, hV, rfl, hfz, hnd⟩ := hW
  have hA : DataW.TrodAll enc Try.prog W 0 (fun _ => true) true Try.f3.params.toList args.toList ds p := hA0
  rw [Try.params3] at hA hval
  obtain ⟨v0, vs0, d0, ds0, p0, q0, hargs, rfl, rfl, h0, r0⟩ := trodAll_cons hA
  obtain ⟨rfl, rfl, rfl⟩ := trodAll_nil r0
  obtain rfl : args = #[v0] := by cases args; simp_all
  obtain ⟨rfl, rfl⟩ := trodVars_none hV
  obtain ⟨a0, rfl, rfl, rfl, w0⟩ := open_int Try.underlying3 (hval 0 3 v0 rfl rfl) h0
  clear hA0 hval0
  simp only [List.append_nil] at hW'
  refine (walk W a0 w0).mono fun e W' ⟨he, bel⟩ => ?_
  subst he
  exact ⟨_, rfl, _, _, _, [], [], [], hW', trodAll_mk1 (shut_bool Try.underlying4 _), (trodAll_cons_mk (shut_int Try.underlying3 w0) trodAll_mk0), rfl, bel.frame _, fun h => by cases h⟩

theorem closed : joinedFacts Try.prog 3 Try.f3 Rows.fnExactNodeNewSpec Rows.fnExactNodeNewRow = true := by
  unfold joinedFacts
  rewrite [head_may, head_lifts, head_make]
  kernel_rfl
theorem over : Rows.fnExactNodeNewRow.holds Try.pinned (OpenSpec.ofChange Rows.fnExactNodeNewSpec) :=
  OpenClaim.holds_of_wide 3 Try.f3 rfl rfl rfl rfl rfl rfl rfl ⟨rfl, rfl, rfl, rfl, rfl⟩ rfl rfl rfl rfl rfl (by kernel_rfl) Try.func3 closed
    (of_decide_eq_true (by kernel_rfl)) (by unfold Func.isWrapper; first | (rw [if_pos (by decide +kernel)]; kernel_rfl) | (rw [if_neg (by decide +kernel)]; exact ⟨rfl, rfl⟩))
    (fun os started H enc _ => lifted os started H enc)

theorem proved : Rows.FnExactNodeNewSaid := over
#print axioms proved
end Go.Proofs.Ytjbmhmlmgihplaa.fnExactNodeNew
