/- For every code and every other slice of bytes the law FnPlaceOf returns true and leaves both as they were. No condition. -/
import Derived.Test.YteofbfnjcojabaaRows
import Derived.WalkKit
import Derived.ProofKit
import Derived.OpenShut
import Derived.ShutString
import Derived.ChangeOld
import Derived.Below
import Derived.Test.YteofbfnjcojabaaRound
import Derived.Test.YteofbfnjcojabaaDrawText
namespace Go.Proofs.Yteofbfnjcojabaa.fnPlaceOf
open Go.ChangeShapes Go.WideShapes Go.ChangeAt Go.RowKit
open Go.ChangeMaps (open_string shut_string)
set_option linter.unusedVariables false

theorem own : ownKnob Try.prog.godebug = none := by kernel_rfl
theorem laidOut : laidOutB Try.prog = true := by kernel_rfl

/-- WHAT THE WALK IS TOLD OF A SLICE OF INTEGERS THAT CAME IN: it is nil; or it leads to a row of 'cap' cells, the numbers 'zs' (the first 'len' are its elements, the rest its spare room), each fitting its kind. -/
def IsRow (k : IntKind) (w : World) (a : Option Addr) (len cap : Nat) (zs : List Int) : Prop :=
  (a = none ∧ len = 0 ∧ cap = 0 ∧ zs = []) ∨
  ∃ x, a = some x ∧ len ≤ cap ∧ cap ≤ maxLen ∧ zs.length = cap ∧ (∀ i, i < zs.length → w.cell? (x.add i) = some (.int k (zs.getD i 0))) ∧ ∀ n ∈ zs, (Lit.int k n).wf = true

/-! ### STEP 1: THE WALK: the Go text returns true, AND WRITES NOTHING THAT WAS THERE: 'Below w.heap.size w w'' (Derived/Below.lean: '.refl', '.alloc', '.drew', '.setCell' at a new block, '.trans'). Open each 'IsRow' by 'rcases' AHEAD of 'go_enter'; part every test ahead of the walk. -/
theorem walk (a0 : Option Addr) (len0 cap0 : Nat) (z0 : List Int) (a1 : Option Addr) (len1 cap1 : Nat) (z1 : List Int) (w : World) (w0 : IsRow .u8 w a0 len0 cap0 z0) (w1 : IsRow .u8 w a1 len1 cap1 z1) :
    Calls Try.prog 4 #[.slice a0 len0 cap0, .slice a1 len1 cap1] w fun e w' => e = .returned (.bool true) ∧ Below w.heap.size w w' := by
  obtain ⟨hr8, hlc, hc⟩ := row8 w0
  obtain ⟨hr81, hlc1, hc1⟩ := row8 w1
  clear w0 w1
  by_cases hbig : (1048576 : Int) < len0
  · go_enter Try.func4, Try.ntmps4
    go_wp2
    go_ret
    exact ⟨rfl, Below.refl _ _⟩
  by_cases hbig1 : (1048576 : Int) < len1
  · go_enter Try.func4, Try.ntmps4
    go_wp2
    go_ret
    exact ⟨rfl, Below.refl _ _⟩
  have hd := drawTextPlace_any a0 len0 cap0 w hlc hc hr8
  go_enter Try.func4, Try.ntmps4
  go_wp2_with fail
  refine hd.mono ?_
  rintro e w1 ⟨s, rfl, hs, hb⟩
  clear hd hr8 hr81
  have hms : s.size ≤ maxLen := by unfold maxLen; omega
  have H1 := Lib.hid (fun W => textPlace_any s W hms)
  have H2 := Lib.hid (fun W => textPlaceS_any s W hms)
  have H3 := Lib.hid (fun W => textOkS_any s W hms)
  cases ht : tokB s.data.toList
  · rw [ht] at H3
    clear ht
    go_wp2_with fail
    refine (H1.out _).mono ?_
    rintro e w2 ⟨rfl, rfl⟩
    go_wp2_with fail
    refine (H2.out _).mono ?_
    rintro e w2 ⟨rfl, rfl⟩
    go_wp2_with fail
    refine (H3.out _).mono ?_
    rintro e w2 ⟨rfl, rfl⟩
    go_wp2_with fail
    refine (H2.out _).mono ?_
    rintro e w2 ⟨rfl, rfl⟩
    go_wp2
    go_ret
    exact ⟨rfl, hb⟩
  · rw [ht] at H3
    have hs4 : s.size ≤ 4 := by have := tokB_len ht; simpa using this
    obtain ⟨hp1, hp2⟩ := placeOf_range _ ht
    have Ht := Lib.hid ht
    clear ht
    go_wp2_with fail
    refine (H1.out _).mono ?_
    rintro e w2 ⟨rfl, rfl⟩
    go_wp2_with fail
    refine (H2.out _).mono ?_
    rintro e w2 ⟨rfl, rfl⟩
    go_wp2_with fail
    refine (H3.out _).mono ?_
    rintro e w2 ⟨rfl, rfl⟩
    by_cases h4 : s.size = 4
    · have h44 : ((s.size : Int) == 4) = true := by simp; omega
      clear h4
      go_wp2
      go_ret
      exact ⟨rfl, hb⟩
    have h44 : ((s.size : Int) == 4) = false := by simp; omega
    have hs3 : s.size ≤ 3 := by omega
    have hk : (len1 : Int) % 4 = 0 ∨ (len1 : Int) % 4 = 1 ∨ (len1 : Int) % 4 = 2 ∨ (len1 : Int) % 4 = 3 := by omega
    rcases hk with hk | hk | hk | hk
    · go_wp2_with fail
      rw [hk]
      clear hk
      go_loopw [8, 9] (fun at' i wr => ∃ j : Nat, (j : Int) ≤ ((s.size : Int) + 1) * 1 ∧ i = .int .i64 j ∧ at' = .int .i64 (slotAt (placeOf s.data.toList) j) ∧ Below w.heap.size w wr) (fun _ i _ => ((s.size + 1) * 1 - (intOf i).toNat))
      case atStart => exact ⟨0, by omega, rfl, by rw [slotAt_zero _ ⟨hp1, hp2⟩], hb⟩
      case round =>
        obtain ⟨j, hj, rfl, rfl, hbr⟩ := hrel
        by_cases hlt : (j : Int) < ((s.size : Int) + 1) * 1
        · go_wp2_with fail
          refine (textNext_any _ _).mono ?_
          rintro e w4 ⟨rfl, hb4⟩
          rw [next_at]
          have hb5 := hbr.trans (hb4.mono hbr.size)
          go_wp2
          go_roundw
          case rel => exact ⟨j + 1, by omega, by go_num, rfl, hb5⟩
          case measure => simp [intOf]; omega
        · have hj2 : (j : Int) = ((s.size : Int) + 1) * 1 := by omega
          have Hj := Lib.hid hj2
          clear hj2
          go_wp2_with fail
          refine (textPlace_is (s ++ (⟨#[97, 98, 99, 100]⟩ : ByteArray).extract 0 1) (slotAt (placeOf s.data.toList) j) _ (by rw [ByteArray.size_append]; unfold maxLen; show s.size + 1 ≤ _; omega)
            (placeOf_more s _ 97 (by decide) j Ht.out (by omega) (by decide) (by rw [Hj.out]; rfl))).mono ?_
          rintro e w4 ⟨rfl, rfl⟩
          go_wp2
          go_ret
          exact ⟨rfl, hbr⟩
    · go_wp2_with fail
      rw [hk]
      clear hk
      go_loopw [8, 9] (fun at' i wr => ∃ j : Nat, (j : Int) ≤ ((s.size : Int) + 1) * 2 ∧ i = .int .i64 j ∧ at' = .int .i64 (slotAt (placeOf s.data.toList) j) ∧ Below w.heap.size w wr) (fun _ i _ => ((s.size + 1) * 2 - (intOf i).toNat))
      case atStart => exact ⟨0, by omega, rfl, by rw [slotAt_zero _ ⟨hp1, hp2⟩], hb⟩
      case round =>
        obtain ⟨j, hj, rfl, rfl, hbr⟩ := hrel
        by_cases hlt : (j : Int) < ((s.size : Int) + 1) * 2
        · go_wp2_with fail
          refine (textNext_any _ _).mono ?_
          rintro e w4 ⟨rfl, hb4⟩
          rw [next_at]
          have hb5 := hbr.trans (hb4.mono hbr.size)
          go_wp2
          go_roundw
          case rel => exact ⟨j + 1, by omega, by go_num, rfl, hb5⟩
          case measure => simp [intOf]; omega
        · have hj2 : (j : Int) = ((s.size : Int) + 1) * 2 := by omega
          have Hj := Lib.hid hj2
          clear hj2
          go_wp2_with fail
          refine (textPlace_is (s ++ (⟨#[97, 98, 99, 100]⟩ : ByteArray).extract 1 2) (slotAt (placeOf s.data.toList) j) _ (by rw [ByteArray.size_append]; unfold maxLen; show s.size + 1 ≤ _; omega)
            (placeOf_more s _ 98 (by decide) j Ht.out (by omega) (by decide) (by rw [Hj.out]; rfl))).mono ?_
          rintro e w4 ⟨rfl, rfl⟩
          go_wp2
          go_ret
          exact ⟨rfl, hbr⟩
    · go_wp2_with fail
      rw [hk]
      clear hk
      go_loopw [8, 9] (fun at' i wr => ∃ j : Nat, (j : Int) ≤ ((s.size : Int) + 1) * 3 ∧ i = .int .i64 j ∧ at' = .int .i64 (slotAt (placeOf s.data.toList) j) ∧ Below w.heap.size w wr) (fun _ i _ => ((s.size + 1) * 3 - (intOf i).toNat))
      case atStart => exact ⟨0, by omega, rfl, by rw [slotAt_zero _ ⟨hp1, hp2⟩], hb⟩
      case round =>
        obtain ⟨j, hj, rfl, rfl, hbr⟩ := hrel
        by_cases hlt : (j : Int) < ((s.size : Int) + 1) * 3
        · go_wp2_with fail
          refine (textNext_any _ _).mono ?_
          rintro e w4 ⟨rfl, hb4⟩
          rw [next_at]
          have hb5 := hbr.trans (hb4.mono hbr.size)
          go_wp2
          go_roundw
          case rel => exact ⟨j + 1, by omega, by go_num, rfl, hb5⟩
          case measure => simp [intOf]; omega
        · have hj2 : (j : Int) = ((s.size : Int) + 1) * 3 := by omega
          have Hj := Lib.hid hj2
          clear hj2
          go_wp2_with fail
          refine (textPlace_is (s ++ (⟨#[97, 98, 99, 100]⟩ : ByteArray).extract 2 3) (slotAt (placeOf s.data.toList) j) _ (by rw [ByteArray.size_append]; unfold maxLen; show s.size + 1 ≤ _; omega)
            (placeOf_more s _ 99 (by decide) j Ht.out (by omega) (by decide) (by rw [Hj.out]; rfl))).mono ?_
          rintro e w4 ⟨rfl, rfl⟩
          go_wp2
          go_ret
          exact ⟨rfl, hbr⟩
    · go_wp2_with fail
      rw [hk]
      clear hk
      go_loopw [8, 9] (fun at' i wr => ∃ j : Nat, (j : Int) ≤ ((s.size : Int) + 1) * 4 ∧ i = .int .i64 j ∧ at' = .int .i64 (slotAt (placeOf s.data.toList) j) ∧ Below w.heap.size w wr) (fun _ i _ => ((s.size + 1) * 4 - (intOf i).toNat))
      case atStart => exact ⟨0, by omega, rfl, by rw [slotAt_zero _ ⟨hp1, hp2⟩], hb⟩
      case round =>
        obtain ⟨j, hj, rfl, rfl, hbr⟩ := hrel
        by_cases hlt : (j : Int) < ((s.size : Int) + 1) * 4
        · go_wp2_with fail
          refine (textNext_any _ _).mono ?_
          rintro e w4 ⟨rfl, hb4⟩
          rw [next_at]
          have hb5 := hbr.trans (hb4.mono hbr.size)
          go_wp2
          go_roundw
          case rel => exact ⟨j + 1, by omega, by go_num, rfl, hb5⟩
          case measure => simp [intOf]; omega
        · have hj2 : (j : Int) = ((s.size : Int) + 1) * 4 := by omega
          have Hj := Lib.hid hj2
          clear hj2
          go_wp2_with fail
          refine (textPlace_is (s ++ (⟨#[97, 98, 99, 100]⟩ : ByteArray).extract 3 4) (slotAt (placeOf s.data.toList) j) _ (by rw [ByteArray.size_append]; unfold maxLen; show s.size + 1 ≤ _; omega)
            (placeOf_more s _ 100 (by decide) j Ht.out (by omega) (by decide) (by rw [Hj.out]; rfl))).mono ?_
          rintro e w4 ⟨rfl, rfl⟩
          go_wp2
          go_ret
          exact ⟨rfl, hbr⟩

/-! ### THE ROW's STEP: WRITTEN OUT: LEAVE IT -/
set_option maxRecDepth 100000 in
theorem lifted (os : Os) (started : os.Started) (H : Type) (enc : TypeId × Value → H) :
    ReturnsInHanded {} Try.checked os 4 .any (Rows.fnPlaceOfSpec.pre6 enc Try.prog Try.f4 Rows.fnPlaceOfRow.domain false) (Rows.fnPlaceOfSpec.post enc Try.prog Try.f4 false true false false) := by
  refine returnsInHanded_of_change (C := Try.checked) own started (by kernel_rfl) Try.func4
    (ChangeSpec.witness6 (enc := enc) (C := Try.checked) false ⟨#[], #[.slice none 0 0, .slice none 0 0], []⟩ 8 (by kernel_rfl) (by kernel_rfl) (by kernel_rfl) (by kernel_rfl)) ?_
  intro W base args ds gs before hval0 hW hcnd _
  have hval : ∀ (j : Nat) t v, Try.f4.params[j]? = some t → args[j]? = some v → Value.okWide Try.prog W .any base t v := hval0
  have hW' := hW
  obtain ⟨p, q, hA0, hV, rfl, hfz, hnd⟩ := hW
  have hA : DataW.TrodAll enc Try.prog W 0 (fun _ => true) true Try.f4.params.toList args.toList ds p := hA0
  rw [Try.params4] at hA hval
  obtain ⟨v0, vs0, d0, ds0, p0, q0, hargs, rfl, rfl, h0, r0⟩ := trodAll_cons hA
  obtain ⟨v1, vs1, d1, ds1, p1, q1, rfl, rfl, rfl, h1, r1⟩ := trodAll_cons r0
  obtain ⟨rfl, rfl, rfl⟩ := trodAll_nil r1
  obtain rfl : args = #[v0, v1] := by cases args; simp_all
  obtain ⟨rfl, rfl⟩ := trodVars_none hV
  obtain ⟨a0, len0, cap0, rfl⟩ := okWide_slice Try.underlying22 (hval 0 22 v0 rfl rfl)
  have k0 := h0
  have lt0 : ∀ x ∈ p0, x.block < W.heap.size := by obtain ⟨m, hm⟩ := k0; exact DataW.trod_lt m _ _ _ hm
  obtain ⟨z0, w0⟩ : ∃ zs, IsRow .u8 W a0 len0 cap0 zs := by
    obtain ⟨fuel, hf⟩ := h0
    rcases open_ints Try.underlying22 Try.underlying5 (by kernel_rfl) hf with ⟨hcs, _⟩ | ⟨x, l, c, zs, hcs, _, hl, hm, hz, _, hcell, hwz⟩
    · simp [Value.cells] at hcs
      obtain ⟨rfl, rfl, rfl⟩ := hcs
      exact ⟨[], .inl ⟨rfl, rfl, rfl, rfl⟩⟩
    · simp [Value.cells] at hcs
      obtain ⟨rfl, rfl, rfl⟩ := hcs
      exact ⟨zs, .inr ⟨_, rfl, hl, hm, by simpa using hz, hcell, hwz⟩⟩
  obtain ⟨a1, len1, cap1, rfl⟩ := okWide_slice Try.underlying22 (hval 1 22 v1 rfl rfl)
  have k1 := h1
  have lt1 : ∀ x ∈ p1, x.block < W.heap.size := by obtain ⟨m, hm⟩ := k1; exact DataW.trod_lt m _ _ _ hm
  obtain ⟨z1, w1⟩ : ∃ zs, IsRow .u8 W a1 len1 cap1 zs := by
    obtain ⟨fuel, hf⟩ := h1
    rcases open_ints Try.underlying22 Try.underlying5 (by kernel_rfl) hf with ⟨hcs, _⟩ | ⟨x, l, c, zs, hcs, _, hl, hm, hz, _, hcell, hwz⟩
    · simp [Value.cells] at hcs
      obtain ⟨rfl, rfl, rfl⟩ := hcs
      exact ⟨[], .inl ⟨rfl, rfl, rfl, rfl⟩⟩
    · simp [Value.cells] at hcs
      obtain ⟨rfl, rfl, rfl⟩ := hcs
      exact ⟨zs, .inr ⟨_, rfl, hl, hm, by simpa using hz, hcell, hwz⟩⟩
  clear hA0 hval0
  refine (walk a0 len0 cap0 z0 a1 len1 cap1 z1 W w0 w1).mono fun e W' ⟨he, bel⟩ => ?_
  subst he
  exact ⟨_, rfl, _, _, _, [], _, [], hW', trodAll_mk1 (shut_bool Try.underlying4 _), (trodAll_cons_mk (Below.trod laidOut (by kernel_rfl) (of_decide_eq_true (by kernel_rfl)) k0 bel lt0) (trodAll_cons_mk (Below.trod laidOut (by kernel_rfl) (of_decide_eq_true (by kernel_rfl)) k1 bel lt1) trodAll_mk0)), rfl, bel.frame _, fun h => by cases h⟩

theorem over : Rows.fnPlaceOfRow.holds Try.pinned (OpenSpec.ofChange Rows.fnPlaceOfSpec) :=
  OpenClaim.holds_of_wide 4 Try.f4 rfl rfl rfl rfl rfl rfl rfl ⟨rfl, rfl, rfl, rfl, rfl⟩ rfl rfl rfl rfl rfl (by kernel_rfl) Try.func4 (by kernel_rfl)
    (of_decide_eq_true (by kernel_rfl)) (by unfold Func.isWrapper; first | (rw [if_pos (by decide +kernel)]; kernel_rfl) | (rw [if_neg (by decide +kernel)]; exact ⟨rfl, rfl⟩))
    (fun os started H enc _ => lifted os started H enc)

/-- The given statement. -/
theorem proved : Rows.FnPlaceOfSaid := over
#print axioms proved
end Go.Proofs.Yteofbfnjcojabaa.fnPlaceOf
