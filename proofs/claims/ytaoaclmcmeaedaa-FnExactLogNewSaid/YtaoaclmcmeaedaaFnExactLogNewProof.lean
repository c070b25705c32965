/- The law FnExactLogNew returns true and leaves all that was there as it was. No condition. -/
import Derived.Test.YtaoaclmcmeaedaaRows
import Derived.WalkKit
import Derived.ProofKit
import Derived.OpenShut
import Derived.ShutString
import Derived.ChangeOld
import Derived.Below
import Derived.Test.YtaoaclmcmeaedaaHead
import Derived.Test.YtaoaclmcmeaedaaLogNewI
namespace Go.Proofs.Ytaoaclmcmeaedaa.fnExactLogNew
open Go.ChangeShapes Go.WideShapes Go.ChangeAt Go.RowKit
open Go.ChangeMaps (open_string shut_string)
set_option linter.unusedVariables false

theorem own : ownKnob Try.prog.godebug = none := by kernel_rfl
theorem laidOut : laidOutB Try.prog = true := by kernel_rfl

def IsRow (k : IntKind) (w : World) (a : Option Addr) (len cap : Nat) (zs : List Int) : Prop :=
  (a = none ∧ len = 0 ∧ cap = 0 ∧ zs = []) ∨
  ∃ x, a = some x ∧ len ≤ cap ∧ cap ≤ maxLen ∧ zs.length = cap ∧ (∀ i, i < zs.length → w.cell? (x.add i) = some (.int k (zs.getD i 0))) ∧ ∀ n ∈ zs, (Lit.int k n).wf = true

set_option maxRecDepth 100000 in
set_option maxHeartbeats 800000 in
theorem walk (w : World)  :
    Calls Try.prog 3 #[] w fun e w' => e = .returned (.bool true) ∧ Below w.heap.size w w' := by
  have HP2 : Hid (freshS.length ≤ 2000000) := Lib.hid (by decide)
  go_enter Try.func3, Try.ntmps3
  go_wp2_with fail
  refine (logNewS_nil w).mono ?_
  rintro e u3 ⟨vw, aw, cw, ow, kw2, rfl, how, hB3⟩
  obtain ⟨gw, kw, rfl⟩ := how.shape
  have es3 : w.heap.size ≤ u3.heap.size := hB3.size
  have hb4 := (Below.refl u3.heap.size u3).alloc (Nat.le_refl _) (.cells #[.slice (some ⟨gw, 0, none⟩) 8 kw, .slice aw 0 cw, .slice ow 0 kw2, .int .i64 0] 28)
  have BW := Lib.hid (boxL_new u3 (.slice (some ⟨gw, 0, none⟩) 8 kw) (.slice aw 0 cw) (.slice ow 0 kw2) 28)
  have HW := Lib.hid (how.next hb4 (Nat.le_refl _))
  have HB4 := Lib.hid (bnext hB3 hb4)
  clear hb4 how hB3
  go_wp2_with fail
  refine (logNew_nil _).mono ?_
  rintro e u5 ⟨vg, rfl, hvg, hb5⟩
  have hog := hvg.own
  rw [World.size_alloc] at hog
  obtain ⟨gg, kg, rfl⟩ := hog.shape
  have es5 : u3.heap.size + 1 ≤ u5.heap.size := by have := hb5.size; simpa using this
  have hb6 := (Below.refl u5.heap.size u5).alloc (Nat.le_refl _) (.cells #[.slice (some ⟨gg, 0, none⟩) 8 kg, .slice none 0 0, .slice none 0 0, .int .i64 0] 28)
  have HG := Lib.hid (hog.next hb6 (Nat.le_refl _))
  have BG := Lib.hid (boxL_new u5 (.slice (some ⟨gg, 0, none⟩) 8 kg) (.slice none 0 0) (.slice none 0 0) 28)
  have BW6 := Lib.hid ((BW.out.later hb5 (Nat.le_refl _)).later hb6 (Nat.le_refl _))
  have HW6 := Lib.hid ((HW.out.next hb5 (by simp)).next hb6 (by omega))
  have HB6 := Lib.hid (bnext (bnext HB4.out hb5) hb6)
  clear hb5 hb6 hog hvg BW HW HB4
  have c0 := BG.out.c0
  have c1 := BG.out.c1
  have c2 := BG.out.c2
  have c3 := BG.out.c3
  have d0 := BW6.out.c0
  have d1 := BW6.out.c1
  have d2 := BW6.out.c2
  have d3 := BW6.out.c3
  go_wp2_with fail
  clear c0 c1 c2 c3 d0 d1 d2 d3
  refine (eqLog_nil _ _ none aw none ow 0 cw 0 kw2 freshS _ (HG.out.slv HP2.out) (HW6.out.slv HP2.out)).mono ?_
  rintro e u10 ⟨rfl, hb10⟩
  have es10 : u5.heap.size + 1 ≤ u10.heap.size := by have := hb10.size; simpa using this
  have HG10 := Lib.hid (HG.out.next hb10 (by simp))
  have BG10 := Lib.hid (BG.out.later hb10 (Nat.le_refl _))
  have BW10 := Lib.hid (BW6.out.later hb10 (Nat.le_refl _))
  have HW10 := Lib.hid (HW6.out.next hb10 (by simp; omega))
  have HB10 := Lib.hid (bnext HB6.out hb10)
  clear hb10 HG BG BW6 HW6 HB6
  have c0 := BG10.out.c0
  have c1 := BG10.out.c1
  have c2 := BG10.out.c2
  have c3 := BG10.out.c3
  go_wp2_with fail
  clear c0 c1 c2 c3
  refine (markLog_nil (u3.heap.size + 1) u5.heap.size 1 _ none none 0 0 freshS u10 HG10.out (by omega) HP2.out (by omega)).mono ?_
  rintro e u11 ⟨rfl, ⟨ys, hys, hyl, hym⟩, hk11⟩
  have es11 : u10.heap.size ≤ u11.heap.size := hk11.size
  have HB11 := Lib.hid (hk11.below HB10.out (by omega) HB10.out.size)
  have BG11 := Lib.hid (BG10.out.keeps hk11 (.inr (Nat.le_refl _)))
  have BW11 := Lib.hid (BW10.out.keeps hk11 (.inl (Nat.lt_succ_self _)))
  have HW11 := Lib.hid (HW10.out.keeps hk11 (.inl (Nat.le_succ _)))
  have HYL := Lib.hid hyl
  have HYN : Hid (ys.length ≤ 2000000) := Lib.hid (by rw [hyl]; exact HP2.out)
  have HYM := Lib.hid hym
  have HYS := Lib.hid hys
  clear hk11 hyl hym hys HB10 BG10 BW10 HW10 HG10
  have c0 := BG11.out.c0
  have c1 := BG11.out.c1
  have c2 := BG11.out.c2
  have c3 := BG11.out.c3
  go_wp2_with fail
  clear c0 c1 c2 c3
  have hh := heldLog_nil (u3.heap.size + 1) u5.heap.size 1 _ none none 0 0 ys u11 HYS.out (by omega) HYN.out (by omega) HYM.out
  rw [HYL.out] at hh
  refine hh.mono ?_
  rintro e u12 ⟨rfl, hb12⟩
  have es12 : u11.heap.size ≤ u12.heap.size := hb12.size
  have HYS12 := Lib.hid (HYS.out.next hb12 (by omega))
  have BG12 := Lib.hid (BG11.out.later hb12 (Nat.le_refl _))
  have BW12 := Lib.hid (BW11.out.later hb12 (Nat.le_refl _))
  have HW12 := Lib.hid (HW11.out.next hb12 (by omega))
  have HB12 := Lib.hid (bnext HB11.out hb12)
  clear hb12 hh HYS BG11 BW11 HW11 HB11
  have hpos : ¬ ((1 + 2 * freshS.length : Nat) : Int) < 0 := by omega
  go_wp2_with fail
  refine (logNew_nil u12).mono ?_
  rintro e u13 ⟨vh, rfl, hvh, hb13⟩
  have hoh := hvh.own
  obtain ⟨gh, kh, rfl⟩ := hoh.shape
  have es13 : u12.heap.size ≤ u13.heap.size := hb13.size
  have hb14 := (Below.refl u13.heap.size u13).alloc (Nat.le_refl _) (.cells #[.slice (some ⟨gh, 0, none⟩) 8 kh, .slice none 0 0, .slice none 0 0, .int .i64 0] 28)
  have HH := Lib.hid (hoh.next hb14 (Nat.le_refl _))
  have BH := Lib.hid (boxL_new u13 (.slice (some ⟨gh, 0, none⟩) 8 kh) (.slice none 0 0) (.slice none 0 0) 28)
  have BG14 := Lib.hid ((BG12.out.later hb13 (Nat.le_refl _)).later hb14 (Nat.le_refl _))
  have BW14 := Lib.hid ((BW12.out.later hb13 (Nat.le_refl _)).later hb14 (Nat.le_refl _))
  have HW14 := Lib.hid ((HW12.out.next hb13 (by omega)).next hb14 (by omega))
  have HYS14 := Lib.hid ((HYS12.out.next hb13 (by omega)).next hb14 (by omega))
  have HB14 := Lib.hid (bnext (bnext HB12.out hb13) hb14)
  clear hb13 hb14 hoh hvh BG12 BW12 HW12 HYS12 HB12
  have c0 := BH.out.c0
  have c1 := BH.out.c1
  have c2 := BH.out.c2
  have c3 := BH.out.c3
  have d0 := BW14.out.c0
  have d1 := BW14.out.c1
  have d2 := BW14.out.c2
  have d3 := BW14.out.c3
  go_wp2_with fail
  clear c0 c1 c2 c3 d0 d1 d2 d3
  refine (eqLog_nil _ _ none aw none ow 0 cw 0 kw2 freshS _ (HH.out.slv HP2.out) (HW14.out.slv HP2.out)).mono ?_
  rintro e u15 ⟨rfl, hb15⟩
  have es15 : u13.heap.size + 1 ≤ u15.heap.size := by have := hb15.size; simpa using this
  have BG15 := Lib.hid (BG14.out.later hb15 (Nat.le_refl _))
  have HYS15 := Lib.hid (HYS14.out.next hb15 (by simp; omega))
  have HB15 := Lib.hid (bnext HB14.out hb15)
  clear hb15 HH BH BG14 BW14 HW14 HYS14 HB14
  have c0 := BG15.out.c0
  have c1 := BG15.out.c1
  have c2 := BG15.out.c2
  have c3 := BG15.out.c3
  go_wp2_with fail
  clear c0 c1 c2 c3
  have hh := heldLog_nil (u3.heap.size + 1) u5.heap.size 1 _ none none 0 0 ys u15 HYS15.out (by omega) HYN.out (by omega) HYM.out
  rw [HYL.out] at hh
  refine hh.mono ?_
  rintro e u16 ⟨rfl, hb16⟩
  have HB16 := Lib.hid (bnext HB15.out hb16)
  clear hb16 hh HYS15 BG15 HB15
  have hpos : ¬ ((1 + 2 * freshS.length : Nat) : Int) < 0 := by omega
  go_wp2_with fail
  go_ret
  exact ⟨rfl, HB16.out⟩

set_option maxRecDepth 100000 in
theorem lifted (os : Os) (started : os.Started) (H : Type) (enc : TypeId × Value → H) :
    ReturnsInHanded {} Try.checked os 3 .any (Rows.fnExactLogNewSpec.pre6 enc Try.prog Try.f3 Rows.fnExactLogNewRow.domain false) (Rows.fnExactLogNewSpec.post enc Try.prog Try.f3 false true false false) := by
  refine returnsInHanded_of_change (C := Try.checked) own started (by kernel_rfl) Try.func3
    (ChangeSpec.witness6 (enc := enc) (C := Try.checked) false ⟨#[], #[], []⟩ 8 (by kernel_rfl) (by kernel_rfl) (by kernel_rfl) (by kernel_rfl)) ?_
  intro W base args ds gs before hval0 hW hcnd _
  have hval : ∀ (j : Nat) t v, Try.f3.params[j]? = some t → args[j]? = some v → Value.okWide Try.prog W .any base t v := hval0
  have hW' := hW
  obtain ⟨p, q, hA0, hV, rfl, hfz, hnd⟩ := hW
  have hA : DataW.TrodAll enc Try.prog W 0 (fun _ => true) true Try.f3.params.toList args.toList ds p := hA0
  rw [Try.params3] at hA hval
  obtain ⟨rfl, rfl, rfl⟩ := trodAll_none hA
  obtain ⟨rfl, rfl⟩ := trodVars_none hV
  clear hA0 hval0
  simp only [List.append_nil] at hW'
  refine (walk W ).mono fun e W' ⟨he, bel⟩ => ?_
  subst he
  exact ⟨_, rfl, _, _, _, [], [], [], hW', trodAll_mk1 (shut_bool Try.underlying4 _), trodAll_mk0, rfl, bel.frame _, fun h => by cases h⟩

theorem closed : joinedFacts Try.prog 3 Try.f3 Rows.fnExactLogNewSpec Rows.fnExactLogNewRow = true := by
  unfold joinedFacts
  rewrite [head_may, head_lifts, head_make]
  kernel_rfl
theorem over : Rows.fnExactLogNewRow.holds Try.pinned (OpenSpec.ofChange Rows.fnExactLogNewSpec) :=
  OpenClaim.holds_of_wide 3 Try.f3 rfl rfl rfl rfl rfl rfl rfl ⟨rfl, rfl, rfl, rfl, rfl⟩ rfl rfl rfl rfl rfl (by kernel_rfl) Try.func3 closed
    (of_decide_eq_true (by kernel_rfl)) (by unfold Func.isWrapper; first | (rw [if_pos (by decide +kernel)]; kernel_rfl) | (rw [if_neg (by decide +kernel)]; exact ⟨rfl, rfl⟩))
    (fun os started H enc _ => lifted os started H enc)

theorem proved : Rows.FnExactLogNewSaid := over
#print axioms proved
end Go.Proofs.Ytaoaclmcmeaedaa.fnExactLogNew
