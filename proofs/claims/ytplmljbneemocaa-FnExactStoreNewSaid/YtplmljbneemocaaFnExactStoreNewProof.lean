/- The law FnExactStoreNew returns true and leaves all that was there as it was. No condition. -/
import Derived.Test.YtplmljbneemocaaRows
import Derived.WalkKit
import Derived.ProofKit
import Derived.OpenShut
import Derived.ShutString
import Derived.ChangeOld
import Derived.Below
import Derived.Test.YtplmljbneemocaaStoreV
namespace Go.Proofs.Ytplmljbneemocaa.fnExactStoreNew
open Go.ChangeShapes Go.WideShapes Go.ChangeAt Go.RowKit
open Go.ChangeMaps (open_string shut_string)
set_option linter.unusedVariables false

theorem own : ownKnob Try.prog.godebug = none := by kernel_rfl
theorem laidOut : laidOutB Try.prog = true := by kernel_rfl

def IsRow (k : IntKind) (w : World) (a : Option Addr) (len cap : Nat) (zs : List Int) : Prop :=
  (a = none ∧ len = 0 ∧ cap = 0 ∧ zs = []) ∨
  ∃ x, a = some x ∧ len ≤ cap ∧ cap ≤ maxLen ∧ zs.length = cap ∧ (∀ i, i < zs.length → w.cell? (x.add i) = some (.int k (zs.getD i 0))) ∧ ∀ n ∈ zs, (Lit.int k n).wf = true

set_option maxRecDepth 100000 in
set_option maxHeartbeats 800000 in
theorem walk (w : World)  :
    Calls Try.prog 13 #[] w fun e w' => e = .returned (.bool true) ∧ Below w.heap.size w w' := by
  have HP2 : Hid (freshS.length ≤ 2000000) := Lib.hid (by decide)
  go_enter Try.func13, Try.ntmps13
  go_wp2_with fail
  refine (storeNewS_any w).mono ?_
  rintro e u3 ⟨rfl, hlt, hs, hB3⟩
  have how : OwnSl w.heap.size u3.heap.size u3 (.slice (some ⟨w.heap.size, 0, none⟩) 8 8) freshS := .inr ⟨w.heap.size, 8, rfl, Nat.le_refl _, hlt, Nat.le_refl _, by decide, by decide, hs⟩
  clear hs
  generalize hvw : (Value.slice (some ⟨w.heap.size, 0, none⟩) 8 8) = vw at *
  clear hvw
  go_wp2_with fail
  refine (storeNew_any u3).mono ?_
  rintro e u5 ⟨vg, rfl, hvg, hb5⟩
  have hB5 := bnext hB3 hb5
  have hog := hvg.own
  have how5 := how.next hb5 (Nat.le_refl _)
  have es5 : u3.heap.size ≤ u5.heap.size := hb5.size
  clear hb5 how hvg hB3
  go_wp2_with fail
  refine (eqSlotS_same vg vw freshS u5 (hog.slv HP2.out) (how5.slv HP2.out)).mono ?_
  rintro e u10 ⟨rfl, hb10⟩
  have hB10 := bnext hB5 hb10
  have hog10 := hog.next hb10 (by omega)
  have how10 := how5.next hb10 (by omega)
  have es10 : u5.heap.size ≤ u10.heap.size := hb10.size
  clear hb10 hog how5 hB5
  go_wp2_with fail
  refine (markSlotS_any u3.heap.size u5.heap.size 1 vg freshS u10 hog10 HP2.out (by omega)).mono ?_
  rintro e u11 ⟨rfl, ⟨ys, hys, hyl, hym⟩, hk11⟩
  have hB11 := hk11.below hB10 (by omega) hB10.size
  have how11 := how10.keeps hk11 (.inl (by omega))
  have es11 : u10.heap.size ≤ u11.heap.size := hk11.size
  have HYL := Lib.hid hyl
  have HYN : Hid (ys.length ≤ 2000000) := Lib.hid (by rw [hyl]; exact HP2.out)
  have HYM := Lib.hid hym
  clear hk11 hog10 how10 hB10 hyl hym
  go_wp2_with fail
  have hh := heldSlotS_any u3.heap.size u5.heap.size 1 vg ys u11 hys HYN.out (by omega) HYM.out
  rw [HYL.out] at hh
  refine hh.mono ?_
  rintro e u12 ⟨rfl, hb12⟩
  have hB12 := bnext hB11 hb12
  have hys12 := hys.next hb12 (by omega)
  have how12 := how11.next hb12 (by omega)
  have es12 : u11.heap.size ≤ u12.heap.size := hb12.size
  clear hb12 hys how11 hB11 hh
  have hpos : ¬ ((1 + 2 * freshS.length : Nat) : Int) < 0 := by omega
  go_wp2_with fail
  refine (storeNew_any u12).mono ?_
  rintro e u14 ⟨vh, rfl, hvh, hb14⟩
  have hB14 := bnext hB12 hb14
  have hys14 := hys12.next hb14 (by omega)
  have how14 := how12.next hb14 (by omega)
  have es14 : u12.heap.size ≤ u14.heap.size := hb14.size
  clear hb14 hys12 how12 hB12
  go_wp2_with fail
  refine (eqSlotS_same vh vw freshS u14 (hvh.slv HP2.out) (how14.slv HP2.out)).mono ?_
  rintro e u15 ⟨rfl, hb15⟩
  have hB15 := bnext hB14 hb15
  have hys15 := hys14.next hb15 (by omega)
  have es15 : u14.heap.size ≤ u15.heap.size := hb15.size
  clear hb15 hys14 how14 hB14 hvh
  go_wp2_with fail
  have hh := heldSlotS_any u3.heap.size u5.heap.size 1 vg ys u15 hys15 HYN.out (by omega) HYM.out
  rw [HYL.out] at hh
  refine hh.mono ?_
  rintro e u16 ⟨rfl, hb16⟩
  have hB16 := bnext hB15 hb16
  clear hh
  go_wp2_with fail
  go_ret
  exact ⟨rfl, hB16⟩

set_option maxRecDepth 100000 in
theorem lifted (os : Os) (started : os.Started) (H : Type) (enc : TypeId × Value → H) :
    ReturnsInHanded {} Try.checked os 13 .any (Rows.fnExactStoreNewSpec.pre6 enc Try.prog Try.f13 Rows.fnExactStoreNewRow.domain false) (Rows.fnExactStoreNewSpec.post enc Try.prog Try.f13 false true false false) := by
  refine returnsInHanded_of_change (C := Try.checked) own started (by kernel_rfl) Try.func13
    (ChangeSpec.witness6 (enc := enc) (C := Try.checked) false ⟨#[], #[], []⟩ 8 (by kernel_rfl) (by kernel_rfl) (by kernel_rfl) (by kernel_rfl)) ?_
  intro W base args ds gs before hval0 hW hcnd _
  have hval : ∀ (j : Nat) t v, Try.f13.params[j]? = some t → args[j]? = some v → Value.okWide Try.prog W .any base t v := hval0
  have hW' := hW
  obtain ⟨p, q, hA0, hV, rfl, hfz, hnd⟩ := hW
  have hA : DataW.TrodAll enc Try.prog W 0 (fun _ => true) true Try.f13.params.toList args.toList ds p := hA0
  rw [Try.params13] at hA hval
  obtain ⟨rfl, rfl, rfl⟩ := trodAll_none hA
  obtain ⟨rfl, rfl⟩ := trodVars_none hV
  clear hA0 hval0
  simp only [List.append_nil] at hW'
  refine (walk W ).mono fun e W' ⟨he, bel⟩ => ?_
  subst he
  exact ⟨_, rfl, _, _, _, [], [], [], hW', trodAll_mk1 (shut_bool Try.underlying4 _), trodAll_mk0, rfl, bel.frame _, fun h => by cases h⟩

theorem over : Rows.fnExactStoreNewRow.holds Try.pinned (OpenSpec.ofChange Rows.fnExactStoreNewSpec) :=
  OpenClaim.holds_of_wide 13 Try.f13 rfl rfl rfl rfl rfl rfl rfl ⟨rfl, rfl, rfl, rfl, rfl⟩ rfl rfl rfl rfl rfl (by kernel_rfl) Try.func13 (by kernel_rfl)
    (of_decide_eq_true (by kernel_rfl)) (by unfold Func.isWrapper; first | (rw [if_pos (by decide +kernel)]; kernel_rfl) | (rw [if_neg (by decide +kernel)]; exact ⟨rfl, rfl⟩))
    (fun os started H enc _ => lifted os started H enc)

theorem proved : Rows.FnExactStoreNewSaid := over
#print axioms proved
end Go.Proofs.Ytplmljbneemocaa.fnExactStoreNew
