/- For every code the law FnStoreFree returns true and leaves the code as it was. No condition. -/
import Derived.Test.YtplmljbneemocaaRows
import Derived.WalkKit
import Derived.ProofKit
import Derived.OpenShut
import Derived.ShutString
import Derived.ChangeOld
import Derived.Below
import Derived.Test.YtplmljbneemocaaStoreMath2
namespace Go.Proofs.Ytplmljbneemocaa.fnStoreFree
open Go.ChangeShapes Go.WideShapes Go.ChangeAt Go.RowKit
open Go.ChangeMaps (open_string shut_string)
set_option linter.unusedVariables false

theorem own : ownKnob Try.prog.godebug = none := by kernel_rfl
theorem laidOut : laidOutB Try.prog = true := by kernel_rfl

def IsRow (k : IntKind) (w : World) (a : Option Addr) (len cap : Nat) (zs : List Int) : Prop :=
  (a = none ∧ len = 0 ∧ cap = 0 ∧ zs = []) ∨
  ∃ x, a = some x ∧ len ≤ cap ∧ cap ≤ maxLen ∧ zs.length = cap ∧ (∀ i, i < zs.length → w.cell? (x.add i) = some (.int k (zs.getD i 0))) ∧ ∀ n ∈ zs, (Lit.int k n).wf = true

set_option maxRecDepth 100000 in
set_option maxHeartbeats 800000 in
theorem walk (w : World) (a0 : Option Addr) (len0 cap0 : Nat) (z0 : List Int) (w0 : IsRow .u8 w a0 len0 cap0 z0) :
    Calls Try.prog 8 #[.slice a0 len0 cap0] w fun e w' => e = .returned (.bool true) ∧ Below w.heap.size w w' := by
  obtain ⟨hr8, hlc, hc⟩ := row8 w0
  clear w0
  by_cases hbig : (1048576 : Int) < len0
  · go_enter Try.func8, Try.ntmps8
    go_wp2
    go_ret
    exact ⟨rfl, Below.refl _ _⟩
  have hd := drawStoreFree_any a0 len0 cap0 w hlc hc hr8
  clear hr8
  go_enter Try.func8, Try.ntmps8
  go_wp2_with fail
  refine hd.mono ?_
  rintro e w1 ⟨g, off, n, c, xs, rfl, hdr⟩
  clear hd
  have HF := Lib.hid hdr.bnd.fits
  have HL := Lib.hid hdr.len
  have hn8 := hdr.hi
  obtain ⟨R, hR⟩ : ∃ R, freeB xs = R := ⟨_, rfl⟩
  have HR := Lib.hid hR
  have H1 := Lib.hid (storeFree_v _ xs w1 hdr.slv HF.out)
  rw [hR] at H1
  go_wp2_with fail
  refine H1.out.mono ?_
  rintro e w2 ⟨rfl, hb2⟩
  have hdr2 := hdr.next hb2
  clear hdr hb2 hR
  have H2 := Lib.hid (storeFreeS_v _ xs w2 hdr2.slv HF.out)
  rw [HR.out] at H2
  go_wp2_with fail
  refine H2.out.mono ?_
  rintro e w3 ⟨rfl, hb3⟩
  have hdr3 := hdr2.next hb3
  clear hdr2 hb3
  have HS := Lib.hid (storeOkS_v _ xs w3 hdr3.slv HF.out)
  cases hsb : storeB xs
  · rw [hsb] at HS
    clear hsb
    go_wp2_with fail
    refine HS.out.mono ?_
    rintro e w4 ⟨rfl, hb4⟩
    have hdr4 := hdr3.next hb4
    clear hb4 hdr3
    have H4 := Lib.hid (storeFreeS_v _ xs w4 hdr4.slv HF.out)
    rw [HR.out] at H4
    go_wp2_with fail
    refine H4.out.mono ?_
    rintro e w5 ⟨rfl, hb5⟩
    have hB := (hdr4.next hb5).bel
    clear hb5 hdr4
    go_wp2_with fail
    go_ret
    exact ⟨rfl, hB⟩
  · rw [hsb] at HS
    have HSB := Lib.hid hsb
    obtain rfl : n = 8 := by have := HL.out; have := storeB_len hsb; omega
    have HR2 : Hid (freeTo xs 8 = R) := Lib.hid (by rw [← HR.out, freeB_of hsb])
    clear hsb
    go_wp2_with fail
    refine HS.out.mono ?_
    rintro e w4 ⟨rfl, hb4⟩
    have HD := Lib.hid (hdr3.next hb4)
    clear hb4 hdr3
    go_wp2_with fail
    go_loopw [5, 6, 7] (fun k i _ wr => ∃ q : Nat, q ≤ 8 ∧ i = .int .i64 (q : Int) ∧ k = .int .i64 (freeTo xs q) ∧ Below w4.heap.size w4 wr) (fun _ i _ _ => 8 - (intOf i).toNat)
    case atStart => exact ⟨0, by omega, rfl, rfl, Below.refl _ _⟩
    case round =>
      obtain ⟨q, hq, rfl, rfl, hbr⟩ := hrel
      have hdr5 := HD.out.next hbr
      by_cases hlt : q < 8
      · obtain ⟨hct, hcu⟩ := hdr5.sl.1 q (by rw [HL.out]; exact hlt)
        have HX := Lib.hid hdr5
        have hfb := freeTo_bound xs q
        have HFS : Hid (freeTo xs (q + 1) = freeTo xs q + (if ((nth xs q).uses == 0) = true then 1 else 0)) := Lib.hid rfl
        have HNO := Lib.hid (fun p (hp : p < q) => (((storeB_iff xs).1 HSB.out).2 q hlt).2 p hp)
        clear hdr5
        have HXX : Hid (∃ x, nth xs q = x) := Lib.hid ⟨_, rfl⟩
        obtain ⟨x, hx⟩ := HXX.out
        clear HXX
        have HXX := Lib.hid hx
        rw [hx] at hct hcu HFS HNO
        clear hx
        obtain ⟨F, hF⟩ : ∃ F, freeTo xs q = F := ⟨_, rfl⟩
        rw [hF] at hfb HFS
        rw [hF]
        clear hF
        obtain ⟨t, u⟩ := x
        simp only at hct hcu HFS
        clear hct HX
        cases hu : (u == 0)
        · have HG : Hid (freeTo xs (q + 1) = F) := Lib.hid (by rw [HFS.out, hu]; simp)
          clear HFS
          go_wp2_with fail
          clear hu hcu
          go_loopw [7] (fun j wq => ∃ p : Nat, p ≤ q ∧ j = .int .i64 (p : Int) ∧ Below w4.heap.size w4 wq) (fun j _ => q - (intOf j).toNat)
          case atStart => exact ⟨0, by omega, rfl, hbr⟩
          case round =>
            obtain ⟨p, hp, rfl, hbq⟩ := hrel
            by_cases hlp : p < q
            · have hq1 := (HD.out.next hbq).sl.1 q (by rw [HL.out]; exact hlt)
              have hp1 := (HD.out.next hbq).sl.1 p (by rw [HL.out]; omega)
              have hno := HNO.out p hlp
              rw [HXX.out] at hq1
              have hqt := hq1.1
              have hpt := hp1.1
              clear hq1 hp1
              obtain ⟨t2, ht2⟩ : ∃ t2, (nth xs p).text = t2 := ⟨_, rfl⟩
              rw [ht2] at hpt
              simp only at hqt
              cases he : t.toList.isEmpty
              · have he2 : (!t.toList.isEmpty) = true := by rw [he]; rfl
                have h5 : (t.toList == t2.toList) = false := by rw [dupB_eq _ _ he, ht2] at hno; exact hno
                clear hno ht2
                go_wp2_with fail
                go_quiet (fail)
                go_wp2_with fail
                go_roundw
                case rel => exact ⟨p + 1, by omega, by go_num, below_drewN hbq _⟩
                case measure => simp [intOf]; omega
              · have he2 : (!t.toList.isEmpty) = false := by rw [he]; rfl
                clear hno ht2
                go_wp2_with fail
                go_quiet (fail)
                go_wp2_with fail
                go_roundw
                case rel => exact ⟨p + 1, by omega, by go_num, below_drewN hbq _⟩
                case measure => simp [intOf]; omega
            · obtain rfl : p = q := by omega
              go_wp2_with fail
              go_roundw
              case rel => exact ⟨p + 1, by omega, by go_num, by rw [HG.out], hbq⟩
              case measure => simp [intOf]; omega
        · have HG : Hid (freeTo xs (q + 1) = F + 1) := Lib.hid (by rw [HFS.out, hu]; simp)
          clear HFS
          go_wp2_with fail
          clear hu hcu
          go_loopw [7] (fun j wq => ∃ p : Nat, p ≤ q ∧ j = .int .i64 (p : Int) ∧ Below w4.heap.size w4 wq) (fun j _ => q - (intOf j).toNat)
          case atStart => exact ⟨0, by omega, rfl, hbr⟩
          case round =>
            obtain ⟨p, hp, rfl, hbq⟩ := hrel
            by_cases hlp : p < q
            · have hq1 := (HD.out.next hbq).sl.1 q (by rw [HL.out]; exact hlt)
              have hp1 := (HD.out.next hbq).sl.1 p (by rw [HL.out]; omega)
              have hno := HNO.out p hlp
              rw [HXX.out] at hq1
              have hqt := hq1.1
              have hpt := hp1.1
              clear hq1 hp1
              obtain ⟨t2, ht2⟩ : ∃ t2, (nth xs p).text = t2 := ⟨_, rfl⟩
              rw [ht2] at hpt
              simp only at hqt
              cases he : t.toList.isEmpty
              · have he2 : (!t.toList.isEmpty) = true := by rw [he]; rfl
                have h5 : (t.toList == t2.toList) = false := by rw [dupB_eq _ _ he, ht2] at hno; exact hno
                clear hno ht2
                go_wp2_with fail
                go_quiet (fail)
                go_wp2_with fail
                go_roundw
                case rel => exact ⟨p + 1, by omega, by go_num, below_drewN hbq _⟩
                case measure => simp [intOf]; omega
              · have he2 : (!t.toList.isEmpty) = false := by rw [he]; rfl
                clear hno ht2
                go_wp2_with fail
                go_quiet (fail)
                go_wp2_with fail
                go_roundw
                case rel => exact ⟨p + 1, by omega, by go_num, below_drewN hbq _⟩
                case measure => simp [intOf]; omega
            · obtain rfl : p = q := by omega
              go_wp2_with fail
              go_roundw
              case rel => exact ⟨p + 1, by omega, by go_num, by rw [HG.out], hbq⟩
              case measure => simp [intOf]; omega
      · obtain rfl : q = 8 := by omega
        have hB := Lib.hid (fun W (hb : Below wr.heap.size wr W) => (hdr5.next hb).bel)
        clear hdr5
        have hr0 : (0 : Int) ≤ R ∧ R ≤ 8 := by rw [← HR2.out]; exact freeTo_bound xs 8
        rw [HR2.out]
        go_wp2_with fail
        refine (storeNew_any _).mono ?_
        rintro e w5 ⟨v, rfl, hv, hb5⟩
        have HQ := Lib.hid (storeFree_v v freshS w5 (hv.slv (by decide)) (Bnd.fits Bnd.fresh))
        rw [show freeB freshS = 8 from by decide +kernel] at HQ
        clear hv
        go_wp2_with fail
        refine HQ.out.mono ?_
        rintro e w6 ⟨rfl, hb6⟩
        have hB2 := hB.out _ (bnext hb5 hb6)
        clear hb5 hb6
        go_wp2_with fail
        go_ret
        exact ⟨rfl, hB2⟩

set_option maxRecDepth 100000 in
theorem lifted (os : Os) (started : os.Started) (H : Type) (enc : TypeId × Value → H) :
    ReturnsInHanded {} Try.checked os 8 .any (Rows.fnStoreFreeSpec.pre6 enc Try.prog Try.f8 Rows.fnStoreFreeRow.domain false) (Rows.fnStoreFreeSpec.post enc Try.prog Try.f8 false true false false) := by
  refine returnsInHanded_of_change (C := Try.checked) own started (by kernel_rfl) Try.func8
    (ChangeSpec.witness6 (enc := enc) (C := Try.checked) false ⟨#[], #[.slice none 0 0], []⟩ 8 (by kernel_rfl) (by kernel_rfl) (by kernel_rfl) (by kernel_rfl)) ?_
  intro W base args ds gs before hval0 hW hcnd _
  have hval : ∀ (j : Nat) t v, Try.f8.params[j]? = some t → args[j]? = some v → Value.okWide Try.prog W .any base t v := hval0
  have hW' := hW
  obtain ⟨p, q, hA0, hV, rfl, hfz, hnd⟩ := hW
  have hA : DataW.TrodAll enc Try.prog W 0 (fun _ => true) true Try.f8.params.toList args.toList ds p := hA0
  rw [Try.params8] at hA hval
  obtain ⟨v0, vs0, d0, ds0, p0, q0, hargs, rfl, rfl, h0, r0⟩ := trodAll_cons hA
  obtain ⟨rfl, rfl, rfl⟩ := trodAll_nil r0
  obtain rfl : args = #[v0] := by cases args; simp_all
  obtain ⟨rfl, rfl⟩ := trodVars_none hV
  obtain ⟨a0, len0, cap0, rfl⟩ := okWide_slice Try.underlying22 (hval 0 22 v0 rfl rfl)
  have k0 := h0
  have lt0 : ∀ x ∈ p0, x.block < W.heap.size := by obtain ⟨m, hm⟩ := k0; exact DataW.trod_lt m _ _ _ hm
  obtain ⟨z0, w0⟩ : ∃ zs, IsRow .u8 W a0 len0 cap0 zs := by
    obtain ⟨fuel, hf⟩ := h0
    rcases open_ints Try.underlying22 Try.underlying5 (by kernel_rfl) hf with ⟨hcs, _⟩ | ⟨x, l, c, zs, hcs, _, hl, hm, hz, _, hcell, hwz⟩
    · simp [Value.cells] at hcs
      obtain ⟨rfl, rfl, rfl⟩ := hcs
      exact ⟨[], .inl ⟨rfl, rfl, rfl, rfl⟩⟩
    · simp [Value.cells] at hcs
      obtain ⟨rfl, rfl, rfl⟩ := hcs
      exact ⟨zs, .inr ⟨_, rfl, hl, hm, by simpa using hz, hcell, hwz⟩⟩
  clear hA0 hval0
  refine (walk W a0 len0 cap0 z0 w0).mono fun e W' ⟨he, bel⟩ => ?_
  subst he
  exact ⟨_, rfl, _, _, _, [], _, [], hW', trodAll_mk1 (shut_bool Try.underlying4 _), (trodAll_cons_mk (Below.trod laidOut (by kernel_rfl) (of_decide_eq_true (by kernel_rfl)) k0 bel lt0) trodAll_mk0), rfl, bel.frame _, fun h => by cases h⟩

theorem over : Rows.fnStoreFreeRow.holds Try.pinned (OpenSpec.ofChange Rows.fnStoreFreeSpec) :=
  OpenClaim.holds_of_wide 8 Try.f8 rfl rfl rfl rfl rfl rfl rfl ⟨rfl, rfl, rfl, rfl, rfl⟩ rfl rfl rfl rfl rfl (by kernel_rfl) Try.func8 (by kernel_rfl)
    (of_decide_eq_true (by kernel_rfl)) (by unfold Func.isWrapper; first | (rw [if_pos (by decide +kernel)]; kernel_rfl) | (rw [if_neg (by decide +kernel)]; exact ⟨rfl, rfl⟩))
    (fun os started H enc _ => lifted os started H enc)

theorem proved : Rows.FnStoreFreeSaid := over
#print axioms proved
end Go.Proofs.Ytplmljbneemocaa.fnStoreFree
