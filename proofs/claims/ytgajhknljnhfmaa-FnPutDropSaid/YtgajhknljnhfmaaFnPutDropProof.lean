/- For every code the law FnPutDrop returns true and leaves the code as it was. No condition. -/
import Derived.Test.YtgajhknljnhfmaaRows
import Derived.WalkKit
import Derived.ProofKit
import Derived.OpenShut
import Derived.ShutString
import Derived.ChangeOld
import Derived.Below
import Derived.Test.YtgajhknljnhfmaaHead
import Derived.Test.YtgajhknljnhfmaaStoreMath2
namespace Go.Proofs.Ytgajhknljnhfmaa.fnPutDrop
open Go.ChangeShapes Go.WideShapes Go.ChangeAt Go.RowKit
open Go.ChangeMaps (open_string shut_string)
set_option linter.unusedVariables false

theorem own : ownKnob Try.prog.godebug = none := by kernel_rfl
theorem laidOut : laidOutB Try.prog = true := by kernel_rfl

def IsRow (k : IntKind) (w : World) (a : Option Addr) (len cap : Nat) (zs : List Int) : Prop :=
  (a = none ∧ len = 0 ∧ cap = 0 ∧ zs = []) ∨
  ∃ x, a = some x ∧ len ≤ cap ∧ cap ≤ maxLen ∧ zs.length = cap ∧ (∀ i, i < zs.length → w.cell? (x.add i) = some (.int k (zs.getD i 0))) ∧ ∀ n ∈ zs, (Lit.int k n).wf = true

set_option maxRecDepth 100000 in
set_option maxHeartbeats 800000 in
theorem walk (w : World) (a0 : Option Addr) (len0 cap0 : Nat) (z0 : List Int) (w0 : IsRow .u8 w a0 len0 cap0 z0) :
    Calls Try.prog 6 #[.slice a0 len0 cap0] w fun e w' => e = .returned (.bool true) ∧ Below w.heap.size w w' := by
  obtain ⟨hr8, hlc, hc⟩ := row8 w0
  clear w0
  by_cases hbig : (1048576 : Int) < len0
  · go_enter Try.func6, Try.ntmps6
    go_wp2
    go_ret
    exact ⟨rfl, Below.refl _ _⟩
  have hd := drawStorePut_any a0 len0 cap0 w hlc hc hr8
  clear hr8
  go_enter Try.func6, Try.ntmps6
  go_wp2_with fail
  refine hd.mono ?_
  rintro e w1 ⟨g, off, n, c, xs, t, rfl, ht, hdr⟩
  clear hd
  have hts : t.size ≤ maxLen := by unfold maxLen; omega
  have HF := Lib.hid hdr.bnd.fits
  have HBN := Lib.hid hdr.bnd
  have HL := Lib.hid hdr.len
  have hn8 := hdr.hi
  obtain ⟨R, hR⟩ : ∃ R, putB xs t = R := ⟨_, rfl⟩
  have HR := Lib.hid hR
  have HRL : Hid (R.1.length ≤ 2000000) := Lib.hid (by rw [← hR]; exact Nat.le_trans (putB_len xs t) (by rw [HL.out]; omega))
  go_wp2_with fail
  refine (storePutS_v _ xs t w1 hdr.slv HF.out hts).mono ?_
  rw [hR]
  rintro e w2 ⟨vw, rfl, hvw, hb2⟩
  have hdr2 := hdr.next hb2
  have how := hvw.own
  have es2 : w1.heap.size ≤ w2.heap.size := hb2.size
  clear hdr hb2 hvw
  go_wp2_with fail
  refine (storePut_v _ xs t w2 hdr2.slv HF.out hts).mono ?_
  rw [hR]
  rintro e w3 ⟨vx, rfl, hvx, hb3⟩
  have hdr3 := hdr2.next hb3
  have how3 := how.next hb3 (Nat.le_refl _)
  have es3 : w2.heap.size ≤ w3.heap.size := hb3.size
  clear hdr2 hb3 how
  have hlg := lgSlots_same vx vw R.1 w3 (hvx.slv HRL.out) (how3.slv HRL.out)
  have HLG := Lib.hid hlg
  clear hlg
  rcases put_ok_of xs t with hno | ⟨j, hpo, hgood, hsb⟩
  · rw [hR] at hno
    obtain ⟨ys, p, ok⟩ := R
    simp only at hno
    subst hno
    clear hR
    go_wp2_with fail
    refine HLG.out.mono ?_
    rintro e w4 ⟨rfl, hb4⟩
    have hdr4 := hdr3.next hb4
    have how4 := how3.next hb4 (by omega)
    have hvx4 := hvx.below hb4 (Nat.le_refl _)
    clear hdr3 how3 hb4 hvx
    have hlg := lgSlots_same vx vw ys w4 (hvx4.slv HRL.out) (how4.slv HRL.out)
    have HLG4 := Lib.hid hlg
    clear hlg how4 hvx4
    go_wp2_with fail
    refine HLG4.out.mono ?_
    rintro e w5 ⟨rfl, hb5⟩
    have hB := (hdr4.next hb5).bel
    clear hb5 hdr4
    go_wp2_with fail
    go_ret
    exact ⟨rfl, hB⟩
  have hR2 := hR.symm.trans hpo.eq
  clear hR
  subst hR2
  simp only at HRL how3 hvx
  obtain rfl : n = 8 := by have := HL.out; have := storeB_len hsb; omega
  have HPO := Lib.hid hpo
  have HG := Lib.hid hgood
  have HSB := Lib.hid hsb
  have hj := hpo.lt
  have hule := hpo.le
  have huup := hpo.up
  have HFY : Hid (Fits (xs.set j ⟨t, (nth xs j).uses + 1⟩)) := Lib.hid (HBN.out.setFits j t _ (by rw [HL.out]; exact hj) ht)
  have HLY : Hid ((xs.set j ⟨t, (nth xs j).uses + 1⟩).length = 8) := Lib.hid (by rw [List.length_set]; exact HL.out)
  clear hpo hgood hsb
  obtain ⟨ys, hys⟩ : ∃ ys, xs.set j ⟨t, (nth xs j).uses + 1⟩ = ys := ⟨_, rfl⟩
  have HYS := Lib.hid hys
  rw [hys] at HRL how3 hvx HFY HLY
  clear hys
  go_wp2_with fail
  refine HLG.out.mono ?_
  rintro e w4 ⟨rfl, hb4⟩
  have hdr4 := hdr3.next hb4
  have hvx4 := hvx.below hb4 (Nat.le_refl _)
  have es4 : w3.heap.size ≤ w4.heap.size := hb4.size
  clear hdr3 how3 hb4 hvx
  have HDD : Hid (∃ zs, dropB ys ((j : Int) + 1) = (zs, true) ∧ sameSls zs xs = true) := Lib.hid (by rw [← HYS.out]; exact put_drop HPO.out HSB.out)
  go_wp2_with fail
  refine (storeDrop_v vx ys ((j : Int) + 1) w4 (hvx4.slv HRL.out) HFY.out).mono ?_
  obtain ⟨zs, hz, hsame⟩ := HDD.out
  rw [hz]
  rintro e w5 ⟨vy, rfl, hvy, hb5⟩
  have hdr5 := hdr4.next hb5
  have hzl : zs.length ≤ 2000000 := by
    have h1 := dropB_len ys ((j : Int) + 1)
    rw [hz] at h1
    have h2 := HRL.out
    simp only at h1
    omega
  have HQ := Lib.hid (lgSlots_is vy _ zs xs true w5 (hvy.slv hzl) hdr5.slv hsame)
  clear hb5 hvy hdr4 hvx4 hsame hz hzl
  go_wp2_with fail
  refine HQ.out.mono ?_
  rintro e w6 ⟨rfl, hb6⟩
  have hB := (hdr5.next hb6).bel
  clear hb6 hdr5
  go_wp2_with fail
  go_ret
  exact ⟨rfl, hB⟩

set_option maxRecDepth 100000 in
theorem lifted (os : Os) (started : os.Started) (H : Type) (enc : TypeId × Value → H) :
    ReturnsInHanded {} Try.checked os 6 .any (Rows.fnPutDropSpec.pre6 enc Try.prog Try.f6 Rows.fnPutDropRow.domain false) (Rows.fnPutDropSpec.post enc Try.prog Try.f6 false true false false) := by
  refine returnsInHanded_of_change (C := Try.checked) own started (by kernel_rfl) Try.func6
    (ChangeSpec.witness6 (enc := enc) (C := Try.checked) false ⟨#[], #[.slice none 0 0], []⟩ 8 (by kernel_rfl) (by kernel_rfl) (by kernel_rfl) (by kernel_rfl)) ?_
  intro W base args ds gs before hval0 hW hcnd _
  have hval : ∀ (j : Nat) t v, Try.f6.params[j]? = some t → args[j]? = some v → Value.okWide Try.prog W .any base t v := hval0
  have hW' := hW
  obtain ⟨p, q, hA0, hV, rfl, hfz, hnd⟩ := hW
  have hA : DataW.TrodAll enc Try.prog W 0 (fun _ => true) true Try.f6.params.toList args.toList ds p := hA0
  rw [Try.params6] at hA hval
  obtain ⟨v0, vs0, d0, ds0, p0, q0, hargs, rfl, rfl, h0, r0⟩ := trodAll_cons hA
  obtain ⟨rfl, rfl, rfl⟩ := trodAll_nil r0
  obtain rfl : args = #[v0] := by cases args; simp_all
  obtain ⟨rfl, rfl⟩ := trodVars_none hV
  obtain ⟨a0, len0, cap0, rfl⟩ := okWide_slice Try.underlying22 (hval 0 22 v0 rfl rfl)
  have k0 := h0
  have lt0 : ∀ x ∈ p0, x.block < W.heap.size := by obtain ⟨m, hm⟩ := k0; exact DataW.trod_lt m _ _ _ hm
  obtain ⟨z0, w0⟩ : ∃ zs, IsRow .u8 W a0 len0 cap0 zs := by
    obtain ⟨fuel, hf⟩ := h0
    rcases open_ints Try.underlying22 Try.underlying5 (by kernel_rfl) hf with ⟨hcs, _⟩ | ⟨x, l, c, zs, hcs, _, hl, hm, hz, _, hcell, hwz⟩
    · simp [Value.cells] at hcs
      obtain ⟨rfl, rfl, rfl⟩ := hcs
      exact ⟨[], .inl ⟨rfl, rfl, rfl, rfl⟩⟩
    · simp [Value.cells] at hcs
      obtain ⟨rfl, rfl, rfl⟩ := hcs
      exact ⟨zs, .inr ⟨_, rfl, hl, hm, by simpa using hz, hcell, hwz⟩⟩
  clear hA0 hval0
  refine (walk W a0 len0 cap0 z0 w0).mono fun e W' ⟨he, bel⟩ => ?_
  subst he
  exact ⟨_, rfl, _, _, _, [], _, [], hW', trodAll_mk1 (shut_bool Try.underlying4 _), (trodAll_cons_mk (Below.trod laidOut (by kernel_rfl) (of_decide_eq_true (by kernel_rfl)) k0 bel lt0) trodAll_mk0), rfl, bel.frame _, fun h => by cases h⟩

theorem closed : joinedFacts Try.prog 6 Try.f6 Rows.fnPutDropSpec Rows.fnPutDropRow = true := by
  unfold joinedFacts
  rewrite [head_may, head_lifts, head_make]
  kernel_rfl
theorem over : Rows.fnPutDropRow.holds Try.pinned (OpenSpec.ofChange Rows.fnPutDropSpec) :=
  OpenClaim.holds_of_wide 6 Try.f6 rfl rfl rfl rfl rfl rfl rfl ⟨rfl, rfl, rfl, rfl, rfl⟩ rfl rfl rfl rfl rfl (by kernel_rfl) Try.func6 closed
    (of_decide_eq_true (by kernel_rfl)) (by unfold Func.isWrapper; first | (rw [if_pos (by decide +kernel)]; kernel_rfl) | (rw [if_neg (by decide +kernel)]; exact ⟨rfl, rfl⟩))
    (fun os started H enc _ => lifted os started H enc)

theorem proved : Rows.FnPutDropSaid := over
#print axioms proved
end Go.Proofs.Ytgajhknljnhfmaa.fnPutDrop
