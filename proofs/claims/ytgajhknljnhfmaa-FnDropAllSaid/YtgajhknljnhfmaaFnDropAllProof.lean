/- For every code the law FnDropAll returns true and leaves the code as it was. No condition. -/
import Derived.Test.YtgajhknljnhfmaaRows
import Derived.WalkKit
import Derived.ProofKit
import Derived.OpenShut
import Derived.ShutString
import Derived.ChangeOld
import Derived.Below
import Derived.Test.YtgajhknljnhfmaaHead
import Derived.Test.YtgajhknljnhfmaaStoreMath3
namespace Go.Proofs.Ytgajhknljnhfmaa.fnDropAll
open Go.ChangeShapes Go.WideShapes Go.ChangeAt Go.RowKit
open Go.ChangeMaps (open_string shut_string)
set_option linter.unusedVariables false

theorem own : ownKnob Try.prog.godebug = none := by kernel_rfl
theorem laidOut : laidOutB Try.prog = true := by kernel_rfl

def IsRow (k : IntKind) (w : World) (a : Option Addr) (len cap : Nat) (zs : List Int) : Prop :=
  (a = none ∧ len = 0 ∧ cap = 0 ∧ zs = []) ∨
  ∃ x, a = some x ∧ len ≤ cap ∧ cap ≤ maxLen ∧ zs.length = cap ∧ (∀ i, i < zs.length → w.cell? (x.add i) = some (.int k (zs.getD i 0))) ∧ ∀ n ∈ zs, (Lit.int k n).wf = true

set_option maxRecDepth 100000 in
set_option maxHeartbeats 800000 in
theorem walk (w : World) (a0 : Option Addr) (len0 cap0 : Nat) (z0 : List Int) (w0 : IsRow .u8 w a0 len0 cap0 z0) :
    Calls Try.prog 9 #[.slice a0 len0 cap0] w fun e w' => e = .returned (.bool true) ∧ Below w.heap.size w w' := by
  obtain ⟨hr8, hlc, hc⟩ := row8 w0
  clear w0
  by_cases hbig : (1048576 : Int) < len0
  · go_enter Try.func9, Try.ntmps9
    go_wp2
    go_ret
    exact ⟨rfl, Below.refl _ _⟩
  have hd := drawStoreDrop_any a0 len0 cap0 w hlc hc hr8
  clear hr8
  go_enter Try.func9, Try.ntmps9
  go_wp2_with fail
  refine hd.mono ?_
  rintro e w1 ⟨g, off, n, c, xs, p, rfl, hp0, hp9, hdr⟩
  clear hd
  have HF := Lib.hid hdr.bnd.fits
  have HBN := Lib.hid hdr.bnd
  have HL := Lib.hid hdr.len
  have hn8 := hdr.hi
  obtain ⟨R, hR⟩ : ∃ R, dropB xs p = R := ⟨_, rfl⟩
  have HRL : Hid (R.1.length ≤ 2000000) := Lib.hid (by rw [← hR]; exact Nat.le_trans (dropB_len xs p) (by rw [HL.out]; omega))
  go_wp2_with fail
  refine (storeDropS_v _ xs p w1 hdr.slv HF.out).mono ?_
  rw [hR]
  rintro e w2 ⟨vw, rfl, hvw, hb2⟩
  have hdr2 := hdr.next hb2
  have how := hvw.own
  have es2 : w1.heap.size ≤ w2.heap.size := hb2.size
  clear hdr hb2 hvw
  go_wp2_with fail
  refine (storeDrop_v _ xs p w2 hdr2.slv HF.out).mono ?_
  rw [hR]
  rintro e w3 ⟨vx, rfl, hvx, hb3⟩
  have hdr3 := hdr2.next hb3
  have how3 := how.next hb3 (Nat.le_refl _)
  have es3 : w2.heap.size ≤ w3.heap.size := hb3.size
  clear hdr2 hb3 how
  have HLG := Lib.hid (lgSlots_same vx vw R.1 w3 (hvx.slv HRL.out) (how3.slv HRL.out))
  cases hdo : dropOk xs p
  · have hz : dropB xs p = ([], false) := by unfold dropB; rw [hdo]; simp
    rw [hR] at hz
    subst hz
    clear hR hdo
    go_wp2_with fail
    refine HLG.out.mono ?_
    rintro e w4 ⟨rfl, hb4⟩
    have hdr4 := hdr3.next hb4
    have es4 : w3.heap.size ≤ w4.heap.size := hb4.size
    have HQ := Lib.hid (lgSlots_same vx vw [] w4 ((hvx.below hb4 (Nat.le_refl _)).slv (by simp)) ((how3.next hb4 (by omega)).slv (by simp)))
    clear hdr3 how3 hb4 hvx
    go_wp2_with fail
    refine HQ.out.mono ?_
    rintro e w5 ⟨rfl, hb5⟩
    have hB := (hdr4.next hb5).bel
    clear hb5 hdr4
    go_wp2_with fail
    go_ret
    exact ⟨rfl, hB⟩
  · have hsb : storeB xs = true := by
      unfold dropOk at hdo
      simp only [Bool.and_eq_true] at hdo
      exact hdo.1.1
    have hp1 : 1 ≤ p := by
      unfold dropOk at hdo
      simp only [Bool.and_eq_true, decide_eq_true_eq] at hdo
      exact hdo.1.2.1
    have hp8 : p ≤ 8 := by
      unfold dropOk at hdo
      simp only [Bool.and_eq_true, decide_eq_true_eq] at hdo
      exact hdo.1.2.2
    obtain ⟨j, hj, hpj, hcs⟩ := drop_cases xs p hsb hp1 hp8
    have hz : dropB xs p = (dropS xs (p - 1).toNat, true) := by unfold dropB; rw [hdo]; simp
    have hu1 : 0 < (nth xs j).uses := by
      rcases hcs with ⟨h, _⟩ | ⟨_, h, _⟩
      · exact absurd (congrArg Prod.snd (hz.symm.trans h)) (by simp)
      · exact h
    obtain rfl : n = 8 := by have := HL.out; have := storeB_len hsb; omega
    have hjl : j < xs.length := by rw [HL.out]; exact hj
    have hrg := okB_range (storeB_ok hsb j hj)
    rw [hR] at hz
    subst hz
    clear hR hdo hcs
    subst hpj
    obtain ⟨U, hU⟩ : ∃ U : Nat, (nth xs j).uses = (U : Int) := ⟨(nth xs j).uses.toNat, by omega⟩
    have HZ := Lib.hid (dropN_zero xs j hjl hu1)
    have HST : Hid (∀ q : Nat, q < U → dropB (dropN xs j q) ((j : Int) + 1) = (dropN xs j (q + 1), true)) := Lib.hid (fun q hq => dropN_step hsb j hj q (by omega))
    have HEN := Lib.hid (dropN_none hsb j hj U hU.symm)
    have HFN := Lib.hid (fun q => dropN_fits HF.out j q hjl)
    have HLN : Hid (∀ q, (dropN xs j q).length = 8) := Lib.hid (fun q => (dropN_len xs j q).trans HL.out)
    have HAT : Hid (nth (dropN xs j U) j = ⟨⟨#[]⟩, 0⟩) := Lib.hid (by rw [dropN_at xs j U hjl, if_pos (by omega)])
    have HBT : Hid (butTo (dropN xs j U) xs ((j : Int) + 1) 8 = true) := Lib.hid (by unfold dropN; exact butTo_set xs j _ hjl 8)
    have HUE := Lib.hid hU
    have hU99 : U ≤ 99 := by omega
    clear hsb hp1 hp8 hp0 hp9 hu1 hrg hU
    go_wp2_with fail
    refine HLG.out.mono ?_
    rintro e w4 ⟨rfl, hb4⟩
    have HD := Lib.hid (hdr3.next hb4)
    have hgs := (hdr3.next hb4).gs
    have hs0 := (hdr3.next hb4).sl.1
    clear hdr3 how3 hb4 hvx
    go_wp2_with fail
    go_loopw [9, 10, 11, 12] (fun y i _ _ wr => ∃ q : Nat, q ≤ U ∧ i = .int .i64 (q : Int) ∧ (∃ gy oy cy, y = .slice (some ⟨gy, oy, none⟩) 8 cy ∧ Slots wr gy oy (dropN xs j q) ∧ gy < wr.heap.size) ∧ Below w4.heap.size w4 wr) (fun _ i _ _ _ => U - (intOf i).toNat)
    case atStart => exact ⟨0, by omega, rfl, ⟨g, off, c, rfl, by rw [HZ.out]; exact hs0, hgs⟩, Below.refl _ _⟩
    case round =>
      obtain ⟨q, hq, rfl, ⟨gy, oy, cy, rfl, hsy, hgy⟩, hbr⟩ := hrel
      have hcu := ((HD.out.next hbr).sl.1 j (by rw [HL.out]; exact hj)).2
      rw [HUE.out] at hcu
      by_cases hlt : q < U
      · have HC := Lib.hid (storeDrop_v (.slice (some ⟨gy, oy, none⟩) 8 cy) (dropN xs j q) ((j : Int) + 1) wr ⟨_, _, _, rfl, HLN.out q, by omega, .inr ⟨gy, oy, rfl, hsy⟩⟩ (HFN.out q))
        rw [HST.out q hlt] at HC
        clear hsy
        go_wp2_with fail
        refine HC.out.mono ?_
        rintro e w5 ⟨v, rfl, hv, hb5⟩
        obtain ⟨g2, c2, rfl, _, hg2s, _, hsl2⟩ := hv.some8 (HLN.out _)
        have hb6 := bnext hbr hb5
        have hs2 := hsl2.1
        clear hb5 hv hsl2 hbr hcu
        go_wp2_with fail
        go_roundw
        case rel => exact ⟨q + 1, by omega, by go_num, ⟨g2, 0, c2, rfl, hs2, hg2s⟩, hb6⟩
        case measure => simp [intOf]; omega
      · obtain rfl : q = U := by omega
        have HC := Lib.hid (storeDrop_v (.slice (some ⟨gy, oy, none⟩) 8 cy) (dropN xs j q) ((j : Int) + 1) wr ⟨_, _, _, rfl, HLN.out q, by omega, .inr ⟨gy, oy, rfl, hsy⟩⟩ (HFN.out q))
        rw [HEN.out] at HC
        have HSY := Lib.hid hsy
        clear hsy
        go_wp2_with fail
        refine HC.out.mono ?_
        rintro e w5 ⟨v, rfl, _, hb5⟩
        have hb6 := bnext hbr hb5
        have hs5 := HSY.out.below hb5 hgy
        have hdr5 := HD.out.next hb6
        obtain ⟨hyt, hyu⟩ := hs5 j (by rw [HLN.out]; exact hj)
        rw [HAT.out] at hyt hyu
        simp only at hyt hyu
        have HB := Lib.hid (lgBut_some gy oy g off 8 cy c ((j : Int) + 1) (dropN xs j q) xs w5 hs5 hdr5.sl.1 (HLN.out _) HL.out (by omega) (by omega) (by omega))
        rw [HBT.out] at HB
        have hcmp := eql_slot ⟨#[]⟩ ⟨#[]⟩ 0 0
        have hbb : ((⟨#[]⟩ : ByteArray).toList == (⟨#[]⟩ : ByteArray).toList && (0 : Int) == 0) = true := by simp
        rw [hbb] at hcmp
        have HDD := Lib.hid hdr5
        clear hbb hb5 hcu hs5 hdr5 hbr hb6
        go_wp2_with fail
        refine HB.out.mono ?_
        rintro e w6 ⟨rfl, hD⟩
        have hB := (HDD.out.next (hD.below _)).bel
        clear hD
        go_wp2_with fail
        go_ret
        exact ⟨rfl, hB⟩

set_option maxRecDepth 100000 in
theorem lifted (os : Os) (started : os.Started) (H : Type) (enc : TypeId × Value → H) :
    ReturnsInHanded {} Try.checked os 9 .any (Rows.fnDropAllSpec.pre6 enc Try.prog Try.f9 Rows.fnDropAllRow.domain false) (Rows.fnDropAllSpec.post enc Try.prog Try.f9 false true false false) := by
  refine returnsInHanded_of_change (C := Try.checked) own started (by kernel_rfl) Try.func9
    (ChangeSpec.witness6 (enc := enc) (C := Try.checked) false ⟨#[], #[.slice none 0 0], []⟩ 8 (by kernel_rfl) (by kernel_rfl) (by kernel_rfl) (by kernel_rfl)) ?_
  intro W base args ds gs before hval0 hW hcnd _
  have hval : ∀ (j : Nat) t v, Try.f9.params[j]? = some t → args[j]? = some v → Value.okWide Try.prog W .any base t v := hval0
  have hW' := hW
  obtain ⟨p, q, hA0, hV, rfl, hfz, hnd⟩ := hW
  have hA : DataW.TrodAll enc Try.prog W 0 (fun _ => true) true Try.f9.params.toList args.toList ds p := hA0
  rw [Try.params9] at hA hval
  obtain ⟨v0, vs0, d0, ds0, p0, q0, hargs, rfl, rfl, h0, r0⟩ := trodAll_cons hA
  obtain ⟨rfl, rfl, rfl⟩ := trodAll_nil r0
  obtain rfl : args = #[v0] := by cases args; simp_all
  obtain ⟨rfl, rfl⟩ := trodVars_none hV
  obtain ⟨a0, len0, cap0, rfl⟩ := okWide_slice Try.underlying22 (hval 0 22 v0 rfl rfl)
  have k0 := h0
  have lt0 : ∀ x ∈ p0, x.block < W.heap.size := by obtain ⟨m, hm⟩ := k0; exact DataW.trod_lt m _ _ _ hm
  obtain ⟨z0, w0⟩ : ∃ zs, IsRow .u8 W a0 len0 cap0 zs := by
    obtain ⟨fuel, hf⟩ := h0
    rcases open_ints Try.underlying22 Try.underlying5 (by kernel_rfl) hf with ⟨hcs, _⟩ | ⟨x, l, c, zs, hcs, _, hl, hm, hz, _, hcell, hwz⟩
    · simp [Value.cells] at hcs
      obtain ⟨rfl, rfl, rfl⟩ := hcs
      exact ⟨[], .inl ⟨rfl, rfl, rfl, rfl⟩⟩
    · simp [Value.cells] at hcs
      obtain ⟨rfl, rfl, rfl⟩ := hcs
      exact ⟨zs, .inr ⟨_, rfl, hl, hm, by simpa using hz, hcell, hwz⟩⟩
  clear hA0 hval0
  refine (walk W a0 len0 cap0 z0 w0).mono fun e W' ⟨he, bel⟩ => ?_
  subst he
  exact ⟨_, rfl, _, _, _, [], _, [], hW', trodAll_mk1 (shut_bool Try.underlying4 _), (trodAll_cons_mk (Below.trod laidOut (by kernel_rfl) (of_decide_eq_true (by kernel_rfl)) k0 bel lt0) trodAll_mk0), rfl, bel.frame _, fun h => by cases h⟩

theorem closed : joinedFacts Try.prog 9 Try.f9 Rows.fnDropAllSpec Rows.fnDropAllRow = true := by
  unfold joinedFacts
  rewrite [head_may, head_lifts, head_make]
  kernel_rfl
theorem over : Rows.fnDropAllRow.holds Try.pinned (OpenSpec.ofChange Rows.fnDropAllSpec) :=
  OpenClaim.holds_of_wide 9 Try.f9 rfl rfl rfl rfl rfl rfl rfl ⟨rfl, rfl, rfl, rfl, rfl⟩ rfl rfl rfl rfl rfl (by kernel_rfl) Try.func9 closed
    (of_decide_eq_true (by kernel_rfl)) (by unfold Func.isWrapper; first | (rw [if_pos (by decide +kernel)]; kernel_rfl) | (rw [if_neg (by decide +kernel)]; exact ⟨rfl, rfl⟩))
    (fun os started H enc _ => lifted os started H enc)

theorem proved : Rows.FnDropAllSaid := over
#print axioms proved
end Go.Proofs.Ytgajhknljnhfmaa.fnDropAll
