/- For every two codes the law FnOpOne returns true and leaves both as they were; the tables of Go's library that the row lists are as the program's text lays them. No other condition. -/
import Derived.Test.YtplicodloanljaaDoorRows
import Derived.WalkKit
import Derived.ProofKit
import Derived.OpenShut
import Derived.ShutString
import Derived.ChangeOld
import Derived.Below
import Derived.Test.YtplicodloanljaaDoorHead
import Derived.Test.YtplicodloanljaaDoorLaid
import Derived.Test.YtplicodloanljaaDoorCards
import Derived.Test.YtplicodloanljaaDoorTie
import Derived.SevenTiedAt
import Derived.Lay
import Derived.Test.YtplicodloanljaaDoorDrawOp
import Derived.Test.YtplicodloanljaaDoorOpMath
import Derived.Test.YtplicodloanljaaDoorOpTextI
import Derived.Deep.CutRange
namespace Go.Proofs.YtplicodloanljaaDoor.fnOpOne
open Go.ChangeShapes Go.WideShapes Go.ChangeAt Go.RowKit
open Go.ChangeMaps (open_string shut_string)
set_option linter.unusedVariables false

theorem own : ownKnob Tryd.prog.godebug = none := by kernel_rfl
theorem laidOut : laidOutB Tryd.prog = true := by kernel_rfl

def IsRow (k : IntKind) (w : World) (a : Option Addr) (len cap : Nat) (zs : List Int) : Prop :=
  (a = none ∧ len = 0 ∧ cap = 0 ∧ zs = []) ∨
  ∃ x, a = some x ∧ len ≤ cap ∧ cap ≤ maxLen ∧ zs.length = cap ∧ (∀ i, i < zs.length → w.cell? (x.add i) = some (.int k (zs.getD i 0))) ∧ ∀ n ∈ zs, (Lit.int k n).wf = true

theorem row8_below {w W : World} {a : Option Addr} {len : Nat} (h : Row8 w.heap.size w a len) (hb : Below w.heap.size w W) : Row8 W.heap.size W a len := by
  rcases h.mono (w' := W) (fun q hq => hb.cell (p := q) hq) with h | ⟨x, ha, hx, hc⟩
  · exact .inl h
  · exact .inr ⟨x, ha, Nat.lt_of_lt_of_le hx hb.size, hc⟩

set_option maxRecDepth 100000 in
set_option maxHeartbeats 800000 in
theorem walk (w : World) (a0 : Option Addr) (len0 cap0 : Nat) (z0 : List Int) (w0 : IsRow .u8 w a0 len0 cap0 z0) (a1 : Option Addr) (len1 cap1 : Nat) (z1 : List Int) (w1 : IsRow .u8 w a1 len1 cap1 z1) :
    Calls Tryd.prog 5 #[.slice a0 len0 cap0, .slice a1 len1 cap1] w fun e w' => e = .returned (.bool true) ∧ Below w.heap.size w w' := by
  obtain ⟨hr8, hlc, hc⟩ := row8 w0
  obtain ⟨hs8, hlc1, hc1⟩ := row8 w1
  clear w0 w1
  by_cases hbig : (1048576 : Int) < len0
  · have d1 : decide ((1048576 : Int) < len0) = true := by simpa using hbig
    go_enter Tryd.func5, Tryd.ntmps5
    go_wp2
    go_ret
    exact ⟨rfl, Below.refl _ _⟩
  have d1 : decide ((1048576 : Int) < len0) = false := by simpa using hbig
  by_cases hbig1 : (1048576 : Int) < len1
  · have d2 : decide ((1048576 : Int) < len1) = true := by simpa using hbig1
    go_enter Tryd.func5, Tryd.ntmps5
    go_wp2
    go_ret
    exact ⟨rfl, Below.refl _ _⟩
  have d2 : decide ((1048576 : Int) < len1) = false := by simpa using hbig1
  have hd := drawOpText_any a0 len0 cap0 w hlc hc hr8
  clear hr8
  go_enter Tryd.func5, Tryd.ntmps5
  go_wp2_with fail
  refine hd.mono ?_
  rintro e w2 ⟨o, rfl, hsm, hb2⟩
  clear hd
  have HX := Lib.hid (OBx.new w2 o)
  have HB2 := Lib.hid (hb2.alloc hb2.size (.cells #[.int .i64 o.kind, .string o.name, .string o.dest, .int .i64 o.num, .string o.text] 24))
  have hd2 := drawOpOk_any a1 len1 cap1 _ hlc1 hc1 (row8_below hs8 HB2.out)
  clear hb2 hs8
  have HI := Lib.hid (fun W => opText_any o W hsm.fits)
  have HS := Lib.hid (fun W => opTextS_any o W hsm.fits)
  have HF := Lib.hid hsm.fits
  clear hsm
  obtain ⟨kind, name, dest, num, text⟩ := o
  simp only [Ov.val] at HI HS HX HB2 hd2 ⊢
  go_wp2_with fail
  refine hd2.mono ?_
  rintro e w3 ⟨p, rfl, hsp, hb3⟩
  clear hd2
  have HX3 := Lib.hid (HX.out.later hb3)
  have HB3 := Lib.hid (bnext HB2.out hb3)
  clear hb3 HX HB2
  have HY := Lib.hid (OBx.new w3 p)
  have HJ := Lib.hid (fun W => opText_any p W hsp.fits)
  have HG := Lib.hid hsp.fits
  clear hsp
  have HX4 := Lib.hid (HX3.out.later (new_below w3 (.cells #[.int .i64 p.kind, .string p.name, .string p.dest, .int .i64 p.num, .string p.text] 24)))
  have HB4 := Lib.hid (HB3.out.alloc HB3.out.size (.cells #[.int .i64 p.kind, .string p.name, .string p.dest, .int .i64 p.num, .string p.text] 24))
  have HL := Lib.hid (HX3.out.lt)
  clear HX3 HB3
  have HE := Lib.hid (fun W => eql_op ⟨kind, name, dest, num, text⟩ p W)
  have HW : Hid (opB ⟨kind, name, dest, num, text⟩ = true → opB p = true → ((opT ⟨kind, name, dest, num, text⟩).toList == (opT p).toList) = sameO ⟨kind, name, dest, num, text⟩ p) := Lib.hid (fun h1 h2 => by
    rw [Bool.eq_iff_iff, sameO_iff, beq_iff_eq]
    exact ⟨fun h => opT_inj h1 h2 (toList_inj h), fun h => by rw [h]⟩)
  have HP1 : Hid (opB ⟨kind, name, dest, num, text⟩ = false → (opT ⟨kind, name, dest, num, text⟩).toList = []) := Lib.hid (fun h => by rw [opT_bad h]; simp [ByteArray.toList_eq])
  have HP2 : Hid (opB p = false → (opT p).toList = []) := Lib.hid (fun h => by rw [opT_bad h]; simp [ByteArray.toList_eq])
  have HN1 : Hid (opB ⟨kind, name, dest, num, text⟩ = true → (opT ⟨kind, name, dest, num, text⟩).toList.isEmpty = false) := Lib.hid (fun h => notEmpty (opT_pos h))
  have HN2 : Hid (opB p = true → (opT p).toList.isEmpty = false) := Lib.hid (fun h => notEmpty (opT_pos h))
  obtain ⟨kind', name', dest', num', text'⟩ := p
  simp only [Ov.val] at HJ HY HE HX4 HB4 ⊢
  generalize opT ⟨kind, name, dest, num, text⟩ = s at HI HS HW HP1 HN1
  generalize opT ⟨kind', name', dest', num', text'⟩ = t at HJ HW HP2 HN2
  generalize sameO ⟨kind, name, dest, num, text⟩ ⟨kind', name', dest', num', text'⟩ = q at HE HW
  have hl := HL.out
  obtain ⟨lt, c0, c1, c2, c3, c4, _⟩ := HX4.out.all
  obtain ⟨mt, e0, e1, e2, e3, e4, _⟩ := HY.out.all
  go_wp2_with fail
  refine (HI.out _).mono ?_
  rintro e w5 ⟨rfl, hb5⟩
  have HX5 := Lib.hid (HX4.out.later hb5)
  have HY5 := Lib.hid (HY.out.later hb5)
  have HB5 := Lib.hid (bnext HB4.out hb5)
  clear hb5 lt c0 c1 c2 c3 c4 mt e0 e1 e2 e3 e4 HX4 HY HB4
  obtain ⟨mt, e0, e1, e2, e3, e4, _⟩ := HY5.out.all
  go_wp2_with fail
  refine (HJ.out _).mono ?_
  rintro e w6 ⟨rfl, hb6⟩
  have HX6 := Lib.hid (HX5.out.later hb6)
  have HY6 := Lib.hid (HY5.out.later hb6)
  have HB6 := Lib.hid (bnext HB5.out hb6)
  clear hb6 mt e0 e1 e2 e3 e4 HX5 HY5 HB5
  obtain ⟨lt, c0, c1, c2, c3, c4, _⟩ := HX6.out.all
  go_wp2_with fail
  refine (HS.out _).mono ?_
  rintro e w7 ⟨rfl, hb7⟩
  have HX7 := Lib.hid (HX6.out.later hb7)
  have HY7 := Lib.hid (HY6.out.later hb7)
  have HB7 := Lib.hid (bnext HB6.out hb7)
  clear hb7 lt c0 c1 c2 c3 c4 HX6 HY6 HB6
  have hss : (s.toList != s.toList) = false := by simp
  have hse : (s.toList == s.toList) = true := by simp
  cases h1 : opB ⟨kind, name, dest, num, text⟩
  · have hs0 := HP1.out h1
    clear h1 HP1 HP2 HN1 HN2 HW HY7
    obtain ⟨lt, c0, c1, c2, c3, c4, _⟩ := HX7.out.all
    go_wp2_with fail
    refine (HS.out _).mono ?_
    rintro e w8 ⟨rfl, hb8⟩
    have HB8 := Lib.hid (bnext HB7.out hb8)
    clear hb8
    go_wp2_with fail
    go_ret
    exact ⟨rfl, HB8.out⟩
  · have hs0 := HN1.out h1
    cases h2 : opB ⟨kind', name', dest', num', text'⟩
    · have ht0 := HP2.out h2
      clear h1 h2 HP1 HP2 HN1 HN2 HW HY7
      obtain ⟨lt, c0, c1, c2, c3, c4, _⟩ := HX7.out.all
      go_wp2_with fail
      refine (HS.out _).mono ?_
      rintro e w8 ⟨rfl, hb8⟩
      have HB8 := Lib.hid (bnext HB7.out hb8)
      clear hb8
      go_wp2_with fail
      go_ret
      exact ⟨rfl, HB8.out⟩
    · have ht0 := HN2.out h2
      have hst := HW.out h1 h2
      have hE := HE.out
      clear h1 h2 HP1 HP2 HN1 HN2 HW HE
      obtain ⟨lt, c0, c1, c2, c3, c4, _⟩ := HX7.out.all
      obtain ⟨mt, e0, e1, e2, e3, e4, _⟩ := HY7.out.all
      cases q
      all_goals (
        go_wp2_with fail
        go_ret
        exact ⟨rfl, HB7.out⟩)

theorem met (os : Os) (args : Array Value) : laidMetH Tryd.prog Rows.fnOpOneRow.laid ((World.laidAll Tryd.prog os Rows.fnOpOneRow.laid).forCall (fun _ _ => 0) ⟨#[], args, []⟩).memory := by
  rw [MakeChecks.laidMetH_plain _ _ _ (by kernel_rfl)]
  exact laidMet_laidAll _ (by kernel_rfl) (by kernel_rfl)

set_option maxRecDepth 100000 in
theorem lifted (os : Os) (started : os.Started) (H : Type) (enc : TypeId × Value → H) :
    ReturnsInHanded {} Tryd.checked os 5 .any (fun w args => (Rows.fnOpOneSpec.pre enc Tryd.prog Tryd.f5 [] false w args ∧ laidMetH Tryd.prog Rows.fnOpOneRow.laid w) ∧ sizedMet enc Tryd.prog Tryd.f5 (OpenSpec.ofChange Rows.fnOpOneSpec) false w args)
      (Rows.fnOpOneSpec.post enc Tryd.prog Tryd.f5 false true false false) := by
  refine handed_laid (C := Tryd.checked) (X := fun w => laidMetH Tryd.prog Rows.fnOpOneRow.laid w) (fun _ _ hh h => h.of_heap hh) own started (by kernel_rfl) Tryd.func5
    (ChangeSpec.witness_shaped (enc := enc) (C := Tryd.checked) (os := os) (X := fun w _ => laidMetH Tryd.prog Rows.fnOpOneRow.laid w) false (World.laidAll Tryd.prog os Rows.fnOpOneRow.laid) #[.slice none 0 0, .slice none 0 0] 8 (World.laidAll_os _ _ _) (World.shaped_of_ZipB (by kernel_rfl) (by kernel_rfl)) (by kernel_rfl) (by kernel_rfl) (by kernel_rfl) (met os _)) ?_
  intro W base args ds gs before hval0 hW hL hsh
  have hval : ∀ (j : Nat) t v, Tryd.f5.params[j]? = some t → args[j]? = some v → Value.okWide Tryd.prog W .any base t v := hval0
  have hW' := hW
  obtain ⟨p, q, hA0, hV, rfl, hfz, hnd⟩ := hW
  have hA : DataW.TrodAll enc Tryd.prog W 0 (fun _ => true) true Tryd.f5.params.toList args.toList ds p := hA0
  rw [Tryd.params5] at hA hval
  obtain ⟨v0, vs0, d0, ds0, p0, q0, hargs, rfl, rfl, h0, r0⟩ := trodAll_cons hA
  obtain ⟨v1, vs1, d1, ds1, p1, q1, rfl, rfl, rfl, h1, r1⟩ := trodAll_cons r0
  obtain ⟨rfl, rfl, rfl⟩ := trodAll_nil r1
  obtain rfl : args = #[v0, v1] := by cases args; simp_all
  obtain ⟨rfl, rfl⟩ := trodVars_none hV
  obtain ⟨a0, len0, cap0, rfl⟩ := okWide_slice Tryd.underlying22 (hval 0 22 v0 rfl rfl)
  have k0 := h0
  have lt0 : ∀ x ∈ p0, x.block < W.heap.size := by obtain ⟨m, hm⟩ := k0; exact DataW.trod_lt m _ _ _ hm
  obtain ⟨z0, w0⟩ : ∃ zs, IsRow .u8 W a0 len0 cap0 zs := by
    obtain ⟨fuel, hf⟩ := h0
    rcases open_ints Tryd.underlying22 Tryd.underlying5 (by kernel_rfl) hf with ⟨hcs, _⟩ | ⟨x, l, c, zs, hcs, _, hl, hm, hz, _, hcell, hwz⟩
    · simp [Value.cells] at hcs
      obtain ⟨rfl, rfl, rfl⟩ := hcs
      exact ⟨[], .inl ⟨rfl, rfl, rfl, rfl⟩⟩
    · simp [Value.cells] at hcs
      obtain ⟨rfl, rfl, rfl⟩ := hcs
      exact ⟨zs, .inr ⟨_, rfl, hl, hm, by simpa using hz, hcell, hwz⟩⟩
  obtain ⟨a1, len1, cap1, rfl⟩ := okWide_slice Tryd.underlying22 (hval 1 22 v1 rfl rfl)
  have k1 := h1
  have lt1 : ∀ x ∈ p1, x.block < W.heap.size := by obtain ⟨m, hm⟩ := k1; exact DataW.trod_lt m _ _ _ hm
  obtain ⟨z1, w1⟩ : ∃ zs, IsRow .u8 W a1 len1 cap1 zs := by
    obtain ⟨fuel, hf⟩ := h1
    rcases open_ints Tryd.underlying22 Tryd.underlying5 (by kernel_rfl) hf with ⟨hcs, _⟩ | ⟨x, l, c, zs, hcs, _, hl, hm, hz, _, hcell, hwz⟩
    · simp [Value.cells] at hcs
      obtain ⟨rfl, rfl, rfl⟩ := hcs
      exact ⟨[], .inl ⟨rfl, rfl, rfl, rfl⟩⟩
    · simp [Value.cells] at hcs
      obtain ⟨rfl, rfl, rfl⟩ := hcs
      exact ⟨zs, .inr ⟨_, rfl, hl, hm, by simpa using hz, hcell, hwz⟩⟩
  clear hA0 hval0
  refine (walk W a0 len0 cap0 z0 w0 a1 len1 cap1 z1 w1).mono fun e W' ⟨he, bel⟩ => ?_
  subst he
  exact ⟨_, rfl, _, _, _, [], _, [], hW', trodAll_mk1 (shut_bool Tryd.underlying4 _), (trodAll_cons_mk (Below.trod laidOut (by kernel_rfl) (of_decide_eq_true (by kernel_rfl)) k0 bel lt0) (trodAll_cons_mk (Below.trod laidOut (by kernel_rfl) (of_decide_eq_true (by kernel_rfl)) k1 bel lt1) trodAll_mk0)), rfl, bel.frame _, fun h => by cases h⟩

theorem closed : joinedFacts Tryd.prog 5 Tryd.f5 Rows.fnOpOneSpec Rows.fnOpOneRow = true := by
  unfold joinedFacts
  rewrite [head_may, head_lifts, head_make]
  kernel_rfl
theorem over : Rows.fnOpOneRow.holds Tryd.pinned (OpenSpec.ofChange Rows.fnOpOneSpec) :=
  OpenClaim.holds_of_wide 5 Tryd.f5 rfl rfl rfl rfl rfl rfl rfl ⟨rfl, rfl, rfl, rfl, rfl⟩ rfl rfl rfl rfl rfl (by kernel_rfl) Tryd.func5 closed
    (of_decide_eq_true (by kernel_rfl)) (by unfold Func.isWrapper; first | (rw [if_pos (by decide +kernel)]; kernel_rfl) | (rw [if_neg (by decide +kernel)]; exact ⟨rfl, rfl⟩))
    (fun os started H enc _ => lifted os started H enc)

theorem proved : Rows.FnOpOneCardSaid :=
  Claim7.holds_tied_plain_at .later [] [.data, .data, .data] true (true, "cc804952601688b809ab80a6f1cb388cd4d55860990d6773acb88f14ba794cd6") true
    over (fun _ h => by cases h) (by kernel_rfl) (fun _ h => by cases h) fnOpOne_row_tie rfl ⟨rfl, rfl⟩ (by kernel_rfl) rfl
    (fun f fn hf hfn => by
      obtain rfl : f = 5 := Option.some.inj ((show Tryd.prog.funcNamed "loop.example/garner/laws.FnOpOne" = some 5 by kernel_rfl).symm.trans hf) |>.symm
      obtain rfl : fn = Tryd.f5 := (Option.some.inj (Tryd.func5.symm.trans hfn)).symm
      exact ⟨by kernel_rfl, fun j t ht => by
        rw [Tryd.params5] at ht
        have hm : t ∈ [22, 22] := by simpa using Array.mem_of_getElem? ht
        have hall : ([22, 22].all fun u => !Tryd.prog.wantsStandIn u) = true := by kernel_rfl
        exact (show Tryd.prog.wantsStandIn t = false by simpa using List.all_eq_true.1 hall t hm)⟩)
    (by kernel_rfl)
#print axioms proved
end Go.Proofs.YtplicodloanljaaDoor.fnOpOne
