/- For every code the law FnFindThere returns true and leaves the code as it was. No condition. -/
import Derived.Test.YtplmljbneemocaaRows
import Derived.WalkKit
import Derived.ProofKit
import Derived.OpenShut
import Derived.ShutString
import Derived.ChangeOld
import Derived.Below
import Derived.Test.YtplmljbneemocaaStoreLaw
namespace Go.Proofs.Ytplmljbneemocaa.fnFindThere
open Go.ChangeShapes Go.WideShapes Go.ChangeAt Go.RowKit
open Go.ChangeMaps (open_string shut_string)
set_option linter.unusedVariables false

theorem own : ownKnob Try.prog.godebug = none := by kernel_rfl
theorem laidOut : laidOutB Try.prog = true := by kernel_rfl

def IsRow (k : IntKind) (w : World) (a : Option Addr) (len cap : Nat) (zs : List Int) : Prop :=
  (a = none ∧ len = 0 ∧ cap = 0 ∧ zs = []) ∨
  ∃ x, a = some x ∧ len ≤ cap ∧ cap ≤ maxLen ∧ zs.length = cap ∧ (∀ i, i < zs.length → w.cell? (x.add i) = some (.int k (zs.getD i 0))) ∧ ∀ n ∈ zs, (Lit.int k n).wf = true

set_option maxRecDepth 100000 in
set_option maxHeartbeats 800000 in
theorem walk (w : World) (a0 : Option Addr) (len0 cap0 : Nat) (z0 : List Int) (w0 : IsRow .u8 w a0 len0 cap0 z0) :
    Calls Try.prog 3 #[.slice a0 len0 cap0] w fun e w' => e = .returned (.bool true) ∧ Below w.heap.size w w' := by
  obtain ⟨hr8, hlc, hc⟩ := row8 w0
  clear w0
  by_cases hbig : (1048576 : Int) < len0
  · go_enter Try.func3, Try.ntmps3
    go_wp2
    go_ret
    exact ⟨rfl, Below.refl _ _⟩
  have hd := drawStoreFind_any a0 len0 cap0 w hlc hc hr8
  clear hr8
  go_enter Try.func3, Try.ntmps3
  go_wp2_with fail
  refine hd.mono ?_
  rintro e w1 ⟨g, off, n, c, xs, t, rfl, ht, hdr⟩
  clear hd
  have hts : t.size ≤ maxLen := by unfold maxLen; omega
  have HF := Lib.hid hdr.bnd.fits
  have HL := Lib.hid hdr.len
  have hn8 := hdr.hi
  obtain ⟨R, hR⟩ : ∃ R, findB xs t = R := ⟨_, rfl⟩
  have HR := Lib.hid hR
  go_wp2_with fail
  refine (storeFindS_v _ xs t w1 hdr.slv HF.out hts).mono ?_
  rw [hR]
  rintro e w2 ⟨rfl, hb2⟩
  have hdr2 := hdr.next hb2
  clear hdr hb2
  go_wp2_with fail
  refine (storeFind_v _ xs t w2 hdr2.slv HF.out hts).mono ?_
  rw [hR]
  rintro e w3 ⟨rfl, hb3⟩
  have hdr3 := hdr2.next hb3
  clear hdr2 hb3 hR
  have hS := storeOkS_v _ xs w3 hdr3.slv HF.out
  have HS := Lib.hid hS
  have HD3 := Lib.hid hdr3
  clear hS hdr3
  obtain ⟨p, ok⟩ := R
  cases h1 : storeB xs
  · rw [h1] at HS
    clear h1
    go_wp2_with fail
    refine HS.out.mono ?_
    rintro e w4 ⟨rfl, hb4⟩
    have hB := (HD3.out.next hb4).bel
    clear hb4
    go_wp2_with fail
    go_ret
    exact ⟨rfl, hB⟩
  · rw [h1] at HS
    have HSB := Lib.hid h1
    cases h2 : tokB t.data.toList
    · have HT := Lib.hid (fun W => textOkS_is t false W hts h2)
      clear h1 h2
      go_wp2_with fail
      refine HS.out.mono ?_
      rintro e w4 ⟨rfl, hb4⟩
      have hB := (HD3.out.next hb4).bel
      clear hb4
      go_wp2_with fail
      refine (HT.out _).mono ?_
      rintro e w5 ⟨rfl, rfl⟩
      go_wp2_with fail
      go_ret
      exact ⟨rfl, hB⟩
    · have HT := Lib.hid (fun W => textOkS_is t true W hts h2)
      cases h3 : t.toList.isEmpty
      · have HG : Hid (goodB xs t = true) := Lib.hid (by simp [goodB, h1, h2, h3])
        have HE := Lib.hid h3
        have hl8 := storeB_len h1
        obtain rfl : n = 8 := by have := HL.out; omega
        clear h1 h2 hl8
        go_wp2_with fail
        refine HS.out.mono ?_
        rintro e w4 ⟨rfl, hb4⟩
        have hdr4 := HD3.out.next hb4
        clear hb4
        go_wp2_with fail
        refine (HT.out _).mono ?_
        rintro e w5 ⟨rfl, rfl⟩
        have hB := hdr4.bel
        have HX := Lib.hid hdr4.sl.1
        clear hdr4
        go_wp2_with fail
        go_loop [9] (fun i => ∃ k : Nat, k ≤ 8 ∧ i = .int .i64 (k : Int) ∧ ∀ q, q < k → TextAt xs q t = false) (fun i => 8 - (intOf i).toNat)
        case atStart => exact ⟨0, by omega, rfl, fun q hq => by omega⟩
        case round =>
          obtain ⟨k, hk, rfl, hno⟩ := hrel
          have HNO := Lib.hid hno
          clear hno
          by_cases hlt : k < 8
          · obtain ⟨hct, _⟩ := HX.out k (by rw [HL.out]; exact hlt)
            cases he : TextAt xs k t
            · have HK := Lib.hid he
              have he2 : ((nth xs k).text.toList == t.toList) = false := he
              clear he
              go_wp2_with fail
              go_round
              case rel =>
                refine ⟨k + 1, by omega, by go_num, fun q hq => ?_⟩
                by_cases e : q = k
                · subst e; exact HK.out
                · exact HNO.out q (by omega)
              case measure => simp [intOf]; omega
            · have he2 : ((nth xs k).text.toList == t.toList) = true := he
              have hh := HR.out.symm.trans (findB_hit HSB.out HG.out HE.out k hlt he)
              simp only [Prod.mk.injEq] at hh
              obtain ⟨rfl, rfl⟩ := hh
              clear he
              go_wp2
              go_ret
              exact ⟨rfl, hB⟩
          · obtain rfl : k = 8 := by omega
            have hh := HR.out.symm.trans (findB_miss HG.out HNO.out)
            simp only [Prod.mk.injEq] at hh
            obtain ⟨rfl, rfl⟩ := hh
            go_wp2
            go_ret
            exact ⟨rfl, hB⟩
      · clear h1 h2
        have h3n : (!t.toList.isEmpty) = false := by rw [h3]; rfl
        go_wp2_with fail
        refine HS.out.mono ?_
        rintro e w4 ⟨rfl, hb4⟩
        have hB := (HD3.out.next hb4).bel
        clear hb4
        go_wp2_with fail
        refine (HT.out _).mono ?_
        rintro e w5 ⟨rfl, rfl⟩
        go_wp2_with fail
        go_ret
        exact ⟨rfl, hB⟩

set_option maxRecDepth 100000 in
theorem lifted (os : Os) (started : os.Started) (H : Type) (enc : TypeId × Value → H) :
    ReturnsInHanded {} Try.checked os 3 .any (Rows.fnFindThereSpec.pre6 enc Try.prog Try.f3 Rows.fnFindThereRow.domain false) (Rows.fnFindThereSpec.post enc Try.prog Try.f3 false true false false) := by
  refine returnsInHanded_of_change (C := Try.checked) own started (by kernel_rfl) Try.func3
    (ChangeSpec.witness6 (enc := enc) (C := Try.checked) false ⟨#[], #[.slice none 0 0], []⟩ 8 (by kernel_rfl) (by kernel_rfl) (by kernel_rfl) (by kernel_rfl)) ?_
  intro W base args ds gs before hval0 hW hcnd _
  have hval : ∀ (j : Nat) t v, Try.f3.params[j]? = some t → args[j]? = some v → Value.okWide Try.prog W .any base t v := hval0
  have hW' := hW
  obtain ⟨p, q, hA0, hV, rfl, hfz, hnd⟩ := hW
  have hA : DataW.TrodAll enc Try.prog W 0 (fun _ => true) true Try.f3.params.toList args.toList ds p := hA0
  rw [Try.params3] at hA hval
  obtain ⟨v0, vs0, d0, ds0, p0, q0, hargs, rfl, rfl, h0, r0⟩ := trodAll_cons hA
  obtain ⟨rfl, rfl, rfl⟩ := trodAll_nil r0
  obtain rfl : args = #[v0] := by cases args; simp_all
  obtain ⟨rfl, rfl⟩ := trodVars_none hV
  obtain ⟨a0, len0, cap0, rfl⟩ := okWide_slice Try.underlying22 (hval 0 22 v0 rfl rfl)
  have k0 := h0
  have lt0 : ∀ x ∈ p0, x.block < W.heap.size := by obtain ⟨m, hm⟩ := k0; exact DataW.trod_lt m _ _ _ hm
  obtain ⟨z0, w0⟩ : ∃ zs, IsRow .u8 W a0 len0 cap0 zs := by
    obtain ⟨fuel, hf⟩ := h0
    rcases open_ints Try.underlying22 Try.underlying5 (by kernel_rfl) hf with ⟨hcs, _⟩ | ⟨x, l, c, zs, hcs, _, hl, hm, hz, _, hcell, hwz⟩
    · simp [Value.cells] at hcs
      obtain ⟨rfl, rfl, rfl⟩ := hcs
      exact ⟨[], .inl ⟨rfl, rfl, rfl, rfl⟩⟩
    · simp [Value.cells] at hcs
      obtain ⟨rfl, rfl, rfl⟩ := hcs
      exact ⟨zs, .inr ⟨_, rfl, hl, hm, by simpa using hz, hcell, hwz⟩⟩
  clear hA0 hval0
  refine (walk W a0 len0 cap0 z0 w0).mono fun e W' ⟨he, bel⟩ => ?_
  subst he
  exact ⟨_, rfl, _, _, _, [], _, [], hW', trodAll_mk1 (shut_bool Try.underlying4 _), (trodAll_cons_mk (Below.trod laidOut (by kernel_rfl) (of_decide_eq_true (by kernel_rfl)) k0 bel lt0) trodAll_mk0), rfl, bel.frame _, fun h => by cases h⟩

theorem over : Rows.fnFindThereRow.holds Try.pinned (OpenSpec.ofChange Rows.fnFindThereSpec) :=
  OpenClaim.holds_of_wide 3 Try.f3 rfl rfl rfl rfl rfl rfl rfl ⟨rfl, rfl, rfl, rfl, rfl⟩ rfl rfl rfl rfl rfl (by kernel_rfl) Try.func3 (by kernel_rfl)
    (of_decide_eq_true (by kernel_rfl)) (by unfold Func.isWrapper; first | (rw [if_pos (by decide +kernel)]; kernel_rfl) | (rw [if_neg (by decide +kernel)]; exact ⟨rfl, rfl⟩))
    (fun os started H enc _ => lifted os started H enc)

theorem proved : Rows.FnFindThereSaid := over
#print axioms proved
end Go.Proofs.Ytplmljbneemocaa.fnFindThere
