/- For every code the law FnPutFree returns true and leaves the code as it was. No condition. -/
import Derived.Test.YtgajhknljnhfmaaRows
import Derived.WalkKit
import Derived.ProofKit
import Derived.OpenShut
import Derived.ShutString
import Derived.ChangeOld
import Derived.Below
import Derived.Test.YtgajhknljnhfmaaHead
import Derived.Test.YtgajhknljnhfmaaStoreMath2
import Derived.Test.YtgajhknljnhfmaaNext
namespace Go.Proofs.Ytgajhknljnhfmaa.fnPutFree
open Go.ChangeShapes Go.WideShapes Go.ChangeAt Go.RowKit
open Go.ChangeMaps (open_string shut_string)
set_option linter.unusedVariables false

theorem own : ownKnob Try.prog.godebug = none := by kernel_rfl
theorem laidOut : laidOutB Try.prog = true := by kernel_rfl

def IsRow (k : IntKind) (w : World) (a : Option Addr) (len cap : Nat) (zs : List Int) : Prop :=
  (a = none ∧ len = 0 ∧ cap = 0 ∧ zs = []) ∨
  ∃ x, a = some x ∧ len ≤ cap ∧ cap ≤ maxLen ∧ zs.length = cap ∧ (∀ i, i < zs.length → w.cell? (x.add i) = some (.int k (zs.getD i 0))) ∧ ∀ n ∈ zs, (Lit.int k n).wf = true

set_option maxRecDepth 100000 in
set_option maxHeartbeats 800000 in
theorem walk (w : World) (a0 : Option Addr) (len0 cap0 : Nat) (z0 : List Int) (w0 : IsRow .u8 w a0 len0 cap0 z0) :
    Calls Try.prog 5 #[.slice a0 len0 cap0] w fun e w' => e = .returned (.bool true) ∧ Below w.heap.size w w' := by
  obtain ⟨hr8, hlc, hc⟩ := row8 w0
  clear w0
  by_cases hbig : (1048576 : Int) < len0
  · go_enter Try.func5, Try.ntmps5
    go_wp2
    go_ret
    exact ⟨rfl, Below.refl _ _⟩
  have hd := drawStorePut_any a0 len0 cap0 w hlc hc hr8
  clear hr8
  go_enter Try.func5, Try.ntmps5
  go_wp2_with fail
  refine hd.mono ?_
  rintro e w1 ⟨g, off, n, c, xs, t, rfl, ht, hdr⟩
  clear hd
  have hts : t.size ≤ maxLen := by unfold maxLen; omega
  have HF := Lib.hid hdr.bnd.fits
  have HBN := Lib.hid hdr.bnd
  have HL := Lib.hid hdr.len
  have hn8 := hdr.hi
  obtain ⟨R, hR⟩ : ∃ R, putB xs t = R := ⟨_, rfl⟩
  have HR := Lib.hid hR
  have HRL : Hid (R.1.length ≤ 2000000) := Lib.hid (by rw [← hR]; exact Nat.le_trans (putB_len xs t) (by rw [HL.out]; omega))
  go_wp2_with fail
  refine (storePutS_v _ xs t w1 hdr.slv HF.out hts).mono ?_
  rw [hR]
  rintro e w2 ⟨vw, rfl, hvw, hb2⟩
  have hdr2 := hdr.next hb2
  have how := hvw.own
  have es2 : w1.heap.size ≤ w2.heap.size := hb2.size
  clear hdr hb2 hvw
  go_wp2_with fail
  refine (storePut_v _ xs t w2 hdr2.slv HF.out hts).mono ?_
  rw [hR]
  rintro e w3 ⟨vx, rfl, hvx, hb3⟩
  have hdr3 := hdr2.next hb3
  have how3 := how.next hb3 (Nat.le_refl _)
  have es3 : w2.heap.size ≤ w3.heap.size := hb3.size
  clear hdr2 hb3 how
  have hlg := lgSlots_same vx vw R.1 w3 (hvx.slv HRL.out) (how3.slv HRL.out)
  have HLG := Lib.hid hlg
  clear hlg
  cases hg : goodB xs t
  · have hR2 : putB xs t = ([], 0, false) := by simp [putB, hg]
    rw [hR] at hR2
    subst hR2
    clear hR
    go_wp2_with fail
    refine HLG.out.mono ?_
    rintro e w4 ⟨rfl, hb4⟩
    have hdr4 := hdr3.next hb4
    have es4 : w3.heap.size ≤ w4.heap.size := hb4.size
    have how4 := how3.next hb4 (by omega)
    have hvx4 := hvx.below hb4 (Nat.le_refl _)
    clear hdr3 how3 hb4 hvx
    have HS := Lib.hid (storeOkS_v _ xs w4 hdr4.slv HF.out)
    cases hsb : storeB xs
    · rw [hsb] at HS
      clear hsb hg
      go_wp2_with fail
      refine HS.out.mono ?_
      rintro e w5 ⟨rfl, hb5⟩
      have hdr5 := hdr4.next hb5
      have HQ := Lib.hid (lgSlots_same vx vw [] w5 ((hvx4.below hb5 (Nat.le_refl _)).slv (by simp)) ((how4.next hb5 (by omega)).slv (by simp)))
      clear hb5 hdr4 how4 hvx4
      go_wp2_with fail
      refine HQ.out.mono ?_
      rintro e w7 ⟨rfl, hb7⟩
      have hB := (hdr5.next hb7).bel
      clear hb7 hdr5
      go_wp2_with fail
      go_ret
      exact ⟨rfl, hB⟩
    · rw [hsb] at HS
      cases htk : tokB t.data.toList
      · have HT := Lib.hid (fun W => textOkS_is t false W hts htk)
        clear hsb hg htk
        go_wp2_with fail
        refine HS.out.mono ?_
        rintro e w5 ⟨rfl, hb5⟩
        have hdr5 := hdr4.next hb5
        have HQ := Lib.hid (lgSlots_same vx vw [] w5 ((hvx4.below hb5 (Nat.le_refl _)).slv (by simp)) ((how4.next hb5 (by omega)).slv (by simp)))
        clear hb5 hdr4 how4 hvx4
        go_wp2_with fail
        refine (HT.out _).mono ?_
        rintro e w6 ⟨rfl, rfl⟩
        go_wp2_with fail
        refine HQ.out.mono ?_
        rintro e w7 ⟨rfl, hb7⟩
        have hB := (hdr5.next hb7).bel
        clear hb7 hdr5
        go_wp2_with fail
        go_ret
        exact ⟨rfl, hB⟩
      · have HT := Lib.hid (fun W => textOkS_is t true W hts htk)
        have he : t.toList.isEmpty = true := by
          cases hh : t.toList.isEmpty
          · have := (goodB_iff xs t).2 ⟨hsb, htk, hh⟩
            rw [hg] at this; cases this
          · rfl
        obtain rfl := empty_ba t he
        clear hsb hg htk he
        go_wp2_with fail
        refine HS.out.mono ?_
        rintro e w5 ⟨rfl, hb5⟩
        have hdr5 := hdr4.next hb5
        have HQ := Lib.hid (lgSlots_same vx vw [] w5 ((hvx4.below hb5 (Nat.le_refl _)).slv (by simp)) ((how4.next hb5 (by omega)).slv (by simp)))
        clear hb5 hdr4 how4 hvx4
        go_wp2_with fail
        refine (HT.out _).mono ?_
        rintro e w6 ⟨rfl, rfl⟩
        go_wp2_with fail
        refine HQ.out.mono ?_
        rintro e w7 ⟨rfl, hb7⟩
        have hB := (hdr5.next hb7).bel
        clear hb7 hdr5
        go_wp2_with fail
        go_ret
        exact ⟨rfl, hB⟩
  · obtain ⟨hsb, htk, he⟩ := (goodB_iff xs t).1 hg
    obtain rfl : n = 8 := by have := HL.out; have := storeB_len hsb; omega
    have HT := Lib.hid (fun W => textOkS_is t true W hts htk)
    have hen : (t.toList == []) = false := by
      cases hh : t.toList with
      | nil => rw [hh] at he; simp at he
      | cons _ _ => rfl
    have hen2 : (t.toList == (⟨#[]⟩ : ByteArray).toList) = false := by rw [empty_list]; exact hen
    have hpl := place_start t htk
    have hpc := put_cases xs t hg
    clear hg he
    go_wp2_with fail
    refine HLG.out.mono ?_
    rintro e w4 ⟨rfl, hb4⟩
    have hdr4 := hdr3.next hb4
    have es4 : w3.heap.size ≤ w4.heap.size := hb4.size
    have how4 := how3.next hb4 (by omega)
    have hvx4 := hvx.below hb4 (Nat.le_refl _)
    clear hdr3 how3 hb4 hvx
    have HS := Lib.hid (storeOkS_v _ xs w4 hdr4.slv HF.out)
    rw [hsb] at HS
    go_wp2_with fail
    refine HS.out.mono ?_
    rintro e w5 ⟨rfl, hb5⟩
    have hdr5 := hdr4.next hb5
    have es5 : w4.heap.size ≤ w5.heap.size := hb5.size
    have how5 := how4.next hb5 (by omega)
    have hvx5 := hvx4.below hb5 (Nat.le_refl _)
    clear hb5 hdr4 how4 hvx4
    go_wp2_with fail
    refine (HT.out _).mono ?_
    rintro e w5 ⟨rfl, rfl⟩
    have H1 := Lib.hid (storeFind_v _ xs t w5 hdr5.slv HF.out hts)
    have HP : Hid (∀ W, Calls Try.prog 34 #[.string t] W fun e w' => e = .returned (.int .i64 (((startOf t : Nat) : Int) + 1)) ∧ w' = W) := Lib.hid (fun W => textPlace_is t _ W hts hpl)
    have HSB := Lib.hid hsb
    clear hsb htk hpl
    go_wp2_with fail
    refine H1.out.mono ?_
    rcases hpc with ⟨j, hpo, hcs⟩ | ⟨heq, hcs⟩
    · rcases hcs with ⟨hfb, _⟩ | ⟨hfb, h0, k0, hk0, hjk, hbef⟩
      · clear hpo
        rw [hfb]
        rintro e w7 ⟨rfl, hb7⟩
        have hB := (hdr5.next hb7).bel
        clear hb7 hdr5
        go_wp2_with fail
        go_ret
        exact ⟨rfl, hB⟩
      · have HBF := Lib.hid hbef
        have HJK := Lib.hid hjk
        have H0 := Lib.hid h0
        clear hbef hjk h0
        have hR2 := hR.symm.trans hpo.eq
        clear hR
        subst hR2
        clear hpo
        rw [hfb]
        rintro e w7 ⟨rfl, hb7⟩
        have hdr7 := hdr5.next hb7
        clear hb7 hdr5 how5 hvx5 hfb
        go_wp2_with fail
        refine (HP.out _).mono ?_
        rintro e w7 ⟨rfl, rfl⟩
        have HD := Lib.hid hdr7
        have hs8 := startOf_lt t
        clear hdr7
        go_wp2_with fail
        go_loopw [13, 14] (fun place i wr => ∃ k : Nat, k ≤ k0 ∧ i = .int .i64 (k : Int) ∧ place = .int .i64 ((((startOf t + k) % 8 : Nat) : Int) + 1) ∧ Below w7.heap.size w7 wr) (fun _ i _ => 8 - (intOf i).toNat)
        case atStart => exact ⟨0, by omega, rfl, by rw [Nat.add_zero, Nat.mod_eq_of_lt hs8], Below.refl _ _⟩
        case round =>
          obtain ⟨k, hk, rfl, rfl, hbr⟩ := hrel
          have hm8 : (startOf t + k) % 8 < 8 := Nat.mod_lt _ (by omega)
          have hdr9 := HD.out.next hbr
          have hcu := (hdr9.sl.1 ((startOf t + k) % 8) (by rw [HL.out]; exact hm8)).2
          have HB := Lib.hid hdr9.bel
          have HNX := Lib.hid (next_spot (startOf t) k)
          clear hdr9
          by_cases hlt : k < k0
          · have hu := HBF.out k hlt
            have H9 := Lib.hid (fun W => textNext_any ((((startOf t + k) % 8 : Nat) : Int) + 1) W)
            rw [HNX.out] at H9
            obtain ⟨J, hJ⟩ : ∃ J, (startOf t + k) % 8 = J := ⟨_, rfl⟩
            rw [hJ] at hcu hm8 hu H9
            rw [hJ]
            clear hJ HNX
            obtain ⟨u, hu2⟩ : ∃ u, (nth xs J).uses = u := ⟨_, rfl⟩
            rw [hu2] at hcu hu
            clear hu2
            have hub : (u == 0) = false := by simpa using hu
            go_wp2_with fail
            refine (H9.out _).mono ?_
            rintro e w9 ⟨rfl, hb9⟩
            have hb10 := bnext hbr hb9
            clear hb9 hbr hcu hu hub
            go_wp2_with fail
            go_roundw
            case rel => exact ⟨k + 1, by omega, by go_num, rfl, hb10⟩
            case measure => simp [intOf]; omega
          · obtain rfl : k = k0 := by omega
            have hj := HJK.out
            rw [← hj] at hcu
            rw [← hj]
            rw [H0.out] at hcu
            rw [← hj] at hm8
            clear hj
            go_wp2_with fail
            go_ret
            exact ⟨rfl, HB.out⟩
    · rcases hcs with ⟨j, hj, hfb, _, _⟩ | ⟨hfb, _, hall⟩
      · rw [hfb]
        rintro e w7 ⟨rfl, hb7⟩
        have hB := (hdr5.next hb7).bel
        clear hb7 hdr5
        go_wp2_with fail
        go_ret
        exact ⟨rfl, hB⟩
      · have hR2 := hR.symm.trans heq
        clear hR heq
        subst hR2
        rw [hfb]
        rintro e w7 ⟨rfl, hb7⟩
        have hdr7 := hdr5.next hb7
        have hvx7 := hvx5.below hb7 (by omega)
        have es7 : w5.heap.size ≤ w7.heap.size := hb7.size
        clear hb7 hdr5 how5 hvx5 hfb
        go_wp2_with fail
        refine (HP.out _).mono ?_
        rintro e w7 ⟨rfl, rfl⟩
        have HD := Lib.hid hdr7
        have HV := Lib.hid hvx7
        have HALL := Lib.hid hall
        have hs8 := startOf_lt t
        have HES : Hid (w3.heap.size ≤ w7.heap.size) := Lib.hid (by omega)
        clear hdr7 hvx7 hall
        go_wp2_with fail
        go_loopw [13, 14] (fun place i wr => ∃ k : Nat, k ≤ 8 ∧ i = .int .i64 (k : Int) ∧ place = .int .i64 ((((startOf t + k) % 8 : Nat) : Int) + 1) ∧ Below w7.heap.size w7 wr) (fun _ i _ => 8 - (intOf i).toNat)
        case atStart => exact ⟨0, by omega, rfl, by rw [Nat.add_zero, Nat.mod_eq_of_lt hs8], Below.refl _ _⟩
        case round =>
          obtain ⟨k, hk, rfl, rfl, hbr⟩ := hrel
          have hm8 : (startOf t + k) % 8 < 8 := Nat.mod_lt _ (by omega)
          have hdr9 := HD.out.next hbr
          by_cases hlt : k < 8
          · have hcu := (hdr9.sl.1 ((startOf t + k) % 8) (by rw [HL.out]; exact hm8)).2
            have HNX := Lib.hid (next_spot (startOf t) k)
            have hu := HALL.out _ hm8
            have H9 := Lib.hid (fun W => textNext_any ((((startOf t + k) % 8 : Nat) : Int) + 1) W)
            rw [HNX.out] at H9
            obtain ⟨J, hJ⟩ : ∃ J, (startOf t + k) % 8 = J := ⟨_, rfl⟩
            rw [hJ] at hcu hm8 hu H9
            rw [hJ]
            clear hJ HNX hdr9
            obtain ⟨u, hu2⟩ : ∃ u, (nth xs J).uses = u := ⟨_, rfl⟩
            rw [hu2] at hcu hu
            clear hu2
            have hub : (u == 0) = false := by simpa using hu
            go_wp2_with fail
            refine (H9.out _).mono ?_
            rintro e w9 ⟨rfl, hb9⟩
            have hb10 := bnext hbr hb9
            clear hb9 hbr hcu hu hub
            go_wp2_with fail
            go_roundw
            case rel => exact ⟨k + 1, by omega, by go_num, rfl, hb10⟩
            case measure => simp [intOf]; omega
          · obtain rfl : k = 8 := by omega
            have HQ := Lib.hid (lgSlots_is vx _ xs xs true _ ((HV.out.below hbr (by have := HES.out; omega)).slv HRL.out) hdr9.slv (sameSls_refl xs))
            go_wp2_with fail
            refine HQ.out.mono ?_
            rintro e w9 ⟨rfl, hb9⟩
            have hB := (hdr9.next hb9).bel
            clear hb9 hdr9
            go_wp2_with fail
            go_ret
            exact ⟨rfl, hB⟩

set_option maxRecDepth 100000 in
theorem lifted (os : Os) (started : os.Started) (H : Type) (enc : TypeId × Value → H) :
    ReturnsInHanded {} Try.checked os 5 .any (Rows.fnPutFreeSpec.pre6 enc Try.prog Try.f5 Rows.fnPutFreeRow.domain false) (Rows.fnPutFreeSpec.post enc Try.prog Try.f5 false true false false) := by
  refine returnsInHanded_of_change (C := Try.checked) own started (by kernel_rfl) Try.func5
    (ChangeSpec.witness6 (enc := enc) (C := Try.checked) false ⟨#[], #[.slice none 0 0], []⟩ 8 (by kernel_rfl) (by kernel_rfl) (by kernel_rfl) (by kernel_rfl)) ?_
  intro W base args ds gs before hval0 hW hcnd _
  have hval : ∀ (j : Nat) t v, Try.f5.params[j]? = some t → args[j]? = some v → Value.okWide Try.prog W .any base t v := hval0
  have hW' := hW
  obtain ⟨p, q, hA0, hV, rfl, hfz, hnd⟩ := hW
  have hA : DataW.TrodAll enc Try.prog W 0 (fun _ => true) true Try.f5.params.toList args.toList ds p := hA0
  rw [Try.params5] at hA hval
  obtain ⟨v0, vs0, d0, ds0, p0, q0, hargs, rfl, rfl, h0, r0⟩ := trodAll_cons hA
  obtain ⟨rfl, rfl, rfl⟩ := trodAll_nil r0
  obtain rfl : args = #[v0] := by cases args; simp_all
  obtain ⟨rfl, rfl⟩ := trodVars_none hV
  obtain ⟨a0, len0, cap0, rfl⟩ := okWide_slice Try.underlying22 (hval 0 22 v0 rfl rfl)
  have k0 := h0
  have lt0 : ∀ x ∈ p0, x.block < W.heap.size := by obtain ⟨m, hm⟩ := k0; exact DataW.trod_lt m _ _ _ hm
  obtain ⟨z0, w0⟩ : ∃ zs, IsRow .u8 W a0 len0 cap0 zs := by
    obtain ⟨fuel, hf⟩ := h0
    rcases open_ints Try.underlying22 Try.underlying5 (by kernel_rfl) hf with ⟨hcs, _⟩ | ⟨x, l, c, zs, hcs, _, hl, hm, hz, _, hcell, hwz⟩
    · simp [Value.cells] at hcs
      obtain ⟨rfl, rfl, rfl⟩ := hcs
      exact ⟨[], .inl ⟨rfl, rfl, rfl, rfl⟩⟩
    · simp [Value.cells] at hcs
      obtain ⟨rfl, rfl, rfl⟩ := hcs
      exact ⟨zs, .inr ⟨_, rfl, hl, hm, by simpa using hz, hcell, hwz⟩⟩
  clear hA0 hval0
  refine (walk W a0 len0 cap0 z0 w0).mono fun e W' ⟨he, bel⟩ => ?_
  subst he
  exact ⟨_, rfl, _, _, _, [], _, [], hW', trodAll_mk1 (shut_bool Try.underlying4 _), (trodAll_cons_mk (Below.trod laidOut (by kernel_rfl) (of_decide_eq_true (by kernel_rfl)) k0 bel lt0) trodAll_mk0), rfl, bel.frame _, fun h => by cases h⟩

theorem closed : joinedFacts Try.prog 5 Try.f5 Rows.fnPutFreeSpec Rows.fnPutFreeRow = true := by
  unfold joinedFacts
  rewrite [head_may, head_lifts, head_make]
  kernel_rfl
theorem over : Rows.fnPutFreeRow.holds Try.pinned (OpenSpec.ofChange Rows.fnPutFreeSpec) :=
  OpenClaim.holds_of_wide 5 Try.f5 rfl rfl rfl rfl rfl rfl rfl ⟨rfl, rfl, rfl, rfl, rfl⟩ rfl rfl rfl rfl rfl (by kernel_rfl) Try.func5 closed
    (of_decide_eq_true (by kernel_rfl)) (by unfold Func.isWrapper; first | (rw [if_pos (by decide +kernel)]; kernel_rfl) | (rw [if_neg (by decide +kernel)]; exact ⟨rfl, rfl⟩))
    (fun os started H enc _ => lifted os started H enc)

theorem proved : Rows.FnPutFreeSaid := over
#print axioms proved
end Go.Proofs.Ytgajhknljnhfmaa.fnPutFree
