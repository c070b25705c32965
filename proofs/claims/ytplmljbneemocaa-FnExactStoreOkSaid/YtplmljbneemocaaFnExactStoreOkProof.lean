/- For every slice of slots the law FnExactStoreOk returns true and leaves the slice as it was. No condition. -/
import Derived.Test.YtplmljbneemocaaRows
import Derived.WalkKit
import Derived.ProofKit
import Derived.OpenShut
import Derived.ShutString
import Derived.ChangeOld
import Derived.Below
import Derived.Test.YtplmljbneemocaaStoreV
namespace Go.Proofs.Ytplmljbneemocaa.fnExactStoreOk
open Go.ChangeShapes Go.WideShapes Go.ChangeAt Go.RowKit
open Go.ChangeMaps (open_string shut_string)
set_option linter.unusedVariables false

theorem own : ownKnob Try.prog.godebug = none := by kernel_rfl
theorem laidOut : laidOutB Try.prog = true := by kernel_rfl

def IsRow (k : IntKind) (w : World) (a : Option Addr) (len cap : Nat) (zs : List Int) : Prop :=
  (a = none ∧ len = 0 ∧ cap = 0 ∧ zs = []) ∨
  ∃ x, a = some x ∧ len ≤ cap ∧ cap ≤ maxLen ∧ zs.length = cap ∧ (∀ i, i < zs.length → w.cell? (x.add i) = some (.int k (zs.getD i 0))) ∧ ∀ n ∈ zs, (Lit.int k n).wf = true

set_option maxRecDepth 100000 in
set_option maxHeartbeats 800000 in
theorem walk (w : World) (a0 : Option Addr) (len0 cap0 : Nat) (z0 : List Sl) (w0 : Sls w a0 z0 ∧ z0.length = len0 ∧ len0 ≤ 9223372036854775807 ∧ ∀ i, i < len0 → (nth z0 i).text.size ≤ maxLen) :
    Calls Try.prog 14 #[.slice a0 len0 cap0] w fun e w' => e = .returned (.bool true) ∧ Below w.heap.size w w' := by
  obtain ⟨hx, hl, hlen, ht⟩ := w0
  have HT : Hid (Fits z0) := Lib.hid (by unfold Fits; rw [hl]; exact ht)
  have HL := Lib.hid hl
  have HZ := Lib.hid (fun W hX => szSlotS_any a0 len0 cap0 z0 1048576 W hX hl hlen (by omega) (by omega) ht)
  clear ht hl
  go_enter Try.func14, Try.ntmps14
  go_wp2_with fail
  refine (HZ.out w hx).mono ?_
  rintro e u1 ⟨r, rfl, hr, hb1⟩
  rcases hr with hr | ⟨r0, r1, r2, r3⟩
  · go_wp2_with fail
    go_ret
    exact ⟨rfl, hb1⟩
  · have hn : len0 ≤ 2000000 := by omega
    have HN : Hid (z0.length ≤ 2000000) := Lib.hid (by rw [HL.out]; exact hn)
    clear r3 r2
    go_wp2_with fail
    have hx1 := hx.below hb1 (Nat.le_refl _)
    refine (toSlotS_any a0 len0 cap0 z0 u1 hx1 HL.out hn).mono ?_
    rintro e w2 ⟨v1, rfl, hv1, hb2⟩
    go_wp2_with fail
    refine (storeOkS_v v1 z0 w2 (hv1.slv HN.out) HT.out).mono ?_
    rintro e w3 ⟨rfl, hb3⟩
    have hx3 := (hx1.below hb2 (Nat.le_refl _)).below hb3 (Nat.le_refl _)
    have hB3 := (hb1.trans (hb2.mono hb1.size)).trans (hb3.mono (Nat.le_trans hb1.size hb2.size))
    clear hb1 hb2 hb3 hv1 hx1
    go_wp2_with fail
    refine (toSlotS_any a0 len0 cap0 z0 w3 hx3 HL.out hn).mono ?_
    rintro e w4 ⟨v2, rfl, hv2, hb4⟩
    go_wp2_with fail
    refine (storeOk_v v2 z0 w4 (hv2.slv HN.out) HT.out).mono ?_
    rintro e w5 ⟨rfl, hb5⟩
    have hx5 := (hx3.below hb4 (Nat.le_refl _)).below hb5 (Nat.le_refl _)
    have hv5 := hv2.below hb5 (Nat.le_refl _)
    have hB5 := (hB3.trans (hb4.mono hB3.size)).trans (hb5.mono (Nat.le_trans hB3.size hb4.size))
    clear hb4 hb5 hv2 hx3 hB3
    go_wp2_with fail
    refine (toSlotS_any a0 len0 cap0 z0 w5 hx5 HL.out hn).mono ?_
    rintro e w6 ⟨v3, rfl, hv3, hb6⟩
    have hv6 := hv5.below hb6 (Nat.le_refl _)
    have hE := eqSlotS_any v2 v3 z0 z0 w6 (hv6.slv HN.out) (hv3.slv HN.out)
    rw [sameSls_refl] at hE
    have hB6 := hB5.trans (hb6.mono hB5.size)
    clear hb6 hv5 hB5 hv6 hv3
    go_wp2_with fail
    refine hE.mono ?_
    rintro e w7 ⟨rfl, hb7⟩
    go_wp2_with fail
    go_ret
    exact ⟨rfl, hB6.trans (hb7.mono hB6.size)⟩

set_option maxRecDepth 100000 in
theorem lifted (os : Os) (started : os.Started) (H : Type) (enc : TypeId × Value → H) :
    ReturnsInHanded {} Try.checked os 14 .any (Rows.fnExactStoreOkSpec.pre6 enc Try.prog Try.f14 Rows.fnExactStoreOkRow.domain false) (Rows.fnExactStoreOkSpec.post enc Try.prog Try.f14 false true false false) := by
  refine returnsInHanded_of_change (C := Try.checked) own started (by kernel_rfl) Try.func14
    (ChangeSpec.witness6 (enc := enc) (C := Try.checked) false ⟨#[], #[.slice none 0 0], []⟩ 8 (by kernel_rfl) (by kernel_rfl) (by kernel_rfl) (by kernel_rfl)) ?_
  intro W base args ds gs before hval0 hW hcnd _
  have hval : ∀ (j : Nat) t v, Try.f14.params[j]? = some t → args[j]? = some v → Value.okWide Try.prog W .any base t v := hval0
  have hW' := hW
  obtain ⟨p, q, hA0, hV, rfl, hfz, hnd⟩ := hW
  have hA : DataW.TrodAll enc Try.prog W 0 (fun _ => true) true Try.f14.params.toList args.toList ds p := hA0
  rw [Try.params14] at hA hval
  obtain ⟨v0, vs0, d0, ds0, p0, q0, hargs, rfl, rfl, h0, r0⟩ := trodAll_cons hA
  obtain ⟨rfl, rfl, rfl⟩ := trodAll_nil r0
  obtain rfl : args = #[v0] := by cases args; simp_all
  obtain ⟨rfl, rfl⟩ := trodVars_none hV
  obtain ⟨a0, len0, cap0, rfl⟩ := okWide_slice Try.underlying50 (hval 0 50 v0 rfl rfl)
  have k0 := h0
  have lt0 : ∀ x ∈ p0, x.block < W.heap.size := by obtain ⟨m, hm⟩ := k0; exact DataW.trod_lt m _ _ _ hm
  obtain ⟨z0, w0⟩ : ∃ z0, Sls W a0 z0 ∧ z0.length = len0 ∧ len0 ≤ 9223372036854775807 ∧ ∀ i, i < len0 → (nth z0 i).text.size ≤ maxLen := by
    obtain ⟨fuel, hf⟩ := h0
    exact open_slots (by simpa [Value.cells] using hf)
  clear hA0 hval0
  refine (walk W a0 len0 cap0 z0 w0).mono fun e W' ⟨he, bel⟩ => ?_
  subst he
  exact ⟨_, rfl, _, _, _, [], _, [], hW', trodAll_mk1 (shut_bool Try.underlying4 _), (trodAll_cons_mk (Below.trod laidOut (by kernel_rfl) (of_decide_eq_true (by kernel_rfl)) k0 bel lt0) trodAll_mk0), rfl, bel.frame _, fun h => by cases h⟩

theorem over : Rows.fnExactStoreOkRow.holds Try.pinned (OpenSpec.ofChange Rows.fnExactStoreOkSpec) :=
  OpenClaim.holds_of_wide 14 Try.f14 rfl rfl rfl rfl rfl rfl rfl ⟨rfl, rfl, rfl, rfl, rfl⟩ rfl rfl rfl rfl rfl (by kernel_rfl) Try.func14 (by kernel_rfl)
    (of_decide_eq_true (by kernel_rfl)) (by unfold Func.isWrapper; first | (rw [if_pos (by decide +kernel)]; kernel_rfl) | (rw [if_neg (by decide +kernel)]; exact ⟨rfl, rfl⟩))
    (fun os started H enc _ => lifted os started H enc)

theorem proved : Rows.FnExactStoreOkSaid := over
#print axioms proved
end Go.Proofs.Ytplmljbneemocaa.fnExactStoreOk
