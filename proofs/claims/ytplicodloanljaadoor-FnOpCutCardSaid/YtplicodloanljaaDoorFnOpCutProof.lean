/- For every code the law FnOpCut returns true and leaves it and the program's own error as they were; the variables that the row lists are as the program's text lays them. No other condition. -/
import Derived.Test.YtplicodloanljaaDoorRows
import Derived.WalkKit
import Derived.ProofKit
import Derived.OpenShut
import Derived.ShutString
import Derived.ChangeOld
import Derived.Below
import Derived.Test.YtplicodloanljaaDoorHead
import Derived.Test.YtplicodloanljaaDoorLaid
import Derived.Test.YtplicodloanljaaDoorCards
import Derived.Test.YtplicodloanljaaDoorTie
import Derived.SevenTiedAt
import Derived.Lay
import Derived.Test.YtplicodloanljaaDoorLaidVars
import Derived.Test.YtplicodloanljaaDoorOpReadP
import Derived.Deep.CutRange
namespace Go.Proofs.YtplicodloanljaaDoor.fnOpCut
open Go.ChangeShapes Go.WideShapes Go.ChangeAt Go.RowKit
open Go.ChangeMaps (open_string shut_string)
set_option linter.unusedVariables false

theorem own : ownKnob Tryd.prog.godebug = none := by kernel_rfl
theorem laidOut : laidOutB Tryd.prog = true := by kernel_rfl

def IsRow (k : IntKind) (w : World) (a : Option Addr) (len cap : Nat) (zs : List Int) : Prop :=
  (a = none ∧ len = 0 ∧ cap = 0 ∧ zs = []) ∨
  ∃ x, a = some x ∧ len ≤ cap ∧ cap ≤ maxLen ∧ zs.length = cap ∧ (∀ i, i < zs.length → w.cell? (x.add i) = some (.int k (zs.getD i 0))) ∧ ∀ n ∈ zs, (Lit.int k n).wf = true

set_option maxRecDepth 100000 in
set_option maxHeartbeats 800000 in
theorem walk (w : World) (a0 : Option Addr) (len0 cap0 : Nat) (z0 : List Int) (w0 : IsRow .u8 w a0 len0 cap0 z0) (pm : Addr) (hvm : Vars pm w) :
    Calls Tryd.prog 6 #[.slice a0 len0 cap0] w fun e w' => e = .returned (.bool true) ∧ Below w.heap.size w w' := by
  obtain ⟨hr8, hlc, hc⟩ := row8 w0
  clear w0
  by_cases hbig : (1048576 : Int) < len0
  · have d1 : decide ((1048576 : Int) < len0) = true := by simpa using hbig
    go_enter Tryd.func6, Tryd.ntmps6
    go_wp2
    go_ret
    exact ⟨rfl, Below.refl _ _⟩
  have d1 : decide ((1048576 : Int) < len0) = false := by simpa using hbig
  have hd := drawOpText_any a0 len0 cap0 w hlc hc hr8
  have HV := Lib.hid hvm
  clear hr8 hvm
  go_enter Tryd.func6, Tryd.ntmps6
  go_wp2_with fail
  refine hd.mono ?_
  rintro e w2 ⟨o, rfl, hsm, hb2⟩
  clear hd
  have HX := Lib.hid (OBx.new w2 o)
  have HB2 := Lib.hid (hb2.alloc hb2.size (.cells #[.int .i64 o.kind, .string o.name, .string o.dest, .int .i64 o.num, .string o.text] 24))
  clear hb2
  have HV2 := Lib.hid (HV.out.later HB2.out)
  have HI := Lib.hid (fun W => opText_any o W hsm.fits)
  have HS := Lib.hid (fun W => opTextS_any o W hsm.fits)
  have HF := Lib.hid hsm.fits
  clear hsm
  obtain ⟨kind, name, dest, num, text⟩ := o
  simp only [Ov.val] at HI HS HX HB2 ⊢
  have HZ := Lib.hid (opT_size ⟨kind, name, dest, num, text⟩)
  have HP1 : Hid (opB ⟨kind, name, dest, num, text⟩ = false → (opT ⟨kind, name, dest, num, text⟩).toList = []) := Lib.hid (fun h => by rw [opT_bad h]; simp [ByteArray.toList_eq])
  have HN1 : Hid (opB ⟨kind, name, dest, num, text⟩ = true → (opT ⟨kind, name, dest, num, text⟩).toList.isEmpty = false) := Lib.hid (fun h => notEmpty (opT_pos h))
  have HLS : Hid (opB ⟨kind, name, dest, num, text⟩ = true → (readB ((opT ⟨kind, name, dest, num, text⟩).extract 0 ((opT ⟨kind, name, dest, num, text⟩).size - 1))).2 = true → (readB ((opT ⟨kind, name, dest, num, text⟩).extract 0 ((opT ⟨kind, name, dest, num, text⟩).size - 1))).1 ≠ ⟨kind, name, dest, num, text⟩) := Lib.hid (fun h => readB_less h)
  have HPO : Hid (opB ⟨kind, name, dest, num, text⟩ = true → 0 < (opT ⟨kind, name, dest, num, text⟩).size) := Lib.hid (fun h => opT_pos h)
  generalize hs : opT ⟨kind, name, dest, num, text⟩ = s at HI HS HP1 HN1 HZ HLS HPO
  clear hs
  obtain ⟨lt, c0, c1, c2, c3, c4, _⟩ := HX.out.all
  go_wp2_with fail
  refine (HI.out _).mono ?_
  rintro e w3 ⟨rfl, hb3⟩
  have HX3 := Lib.hid (HX.out.later hb3)
  have HV3 := Lib.hid (HV2.out.later hb3)
  have HB3 := Lib.hid (bnext HB2.out hb3)
  clear hb3 lt c0 c1 c2 c3 c4 HX HV2 HB2
  obtain ⟨lt, c0, c1, c2, c3, c4, _⟩ := HX3.out.all
  go_wp2_with fail
  refine (HS.out _).mono ?_
  rintro e w4 ⟨rfl, hb4⟩
  have HX4 := Lib.hid (HX3.out.later hb4)
  have HV4 := Lib.hid (HV3.out.later hb4)
  have HB4 := Lib.hid (bnext HB3.out hb4)
  clear hb4 lt c0 c1 c2 c3 c4 HX3 HV3 HB3
  have hss : (s.toList != s.toList) = false := by simp
  have hse : (s.toList == s.toList) = true := by simp
  have hsz : s.size ≤ 9223372036854775807 := by have := HZ.out; omega
  cases h1 : opB ⟨kind, name, dest, num, text⟩
  · have hs0 := HP1.out h1
    obtain ⟨lt, c0, c1, c2, c3, c4, _⟩ := HX4.out.all
    go_wp2_with fail
    refine (HS.out _).mono ?_
    rintro e w5 ⟨rfl, hb5⟩
    have HB5 := Lib.hid (bnext HB4.out hb5)
    clear hb5
    go_wp2_with fail
    go_ret
    exact ⟨rfl, HB5.out⟩
  · have hs0 := HN1.out h1
    have hH1 := Lib.hid h1
    clear h1 HP1 HN1
    have HR := Lib.hid (fun t (ht : t.size ≤ maxLen) W hv => opRead_any t ht pm W hv)
    have hpos : 1 ≤ s.size := HPO.out hH1.out
    have hs14 := HZ.out
    have hla := Lib.hid (HLS.out hH1.out)
    have HN := Lib.hid (fun o W => neq_op o ⟨kind, name, dest, num, text⟩ W)
    have HQ := Lib.hid (readB_behind s)
    have HQ2 := Lib.hid (readB_ahead s)
    have i1 : IntKind.i64.wrap ((s.size : Int) - 1) = (s.size : Int) - 1 := IntWalk.i64_in _ (by omega)
    have i2 : (0 : Int) ≤ (s.size : Int) - 1 := by omega
    have i3 : (s.size : Int) - 1 ≤ (s.size : Int) := by omega
    have i4 : ((s.size : Int) - 1).toNat = s.size - 1 := by omega
    clear HLS HPO hH1 HF
    obtain ⟨lt, c0, c1, c2, c3, c4, _⟩ := HX4.out.all
    have hx1 : (s.extract 0 (s.size - 1)).size ≤ maxLen := by rw [ByteArray.size_extract]; unfold maxLen; omega
    have HR1 := Lib.hid (HR.out _ hx1)
    have HR2 := Lib.hid (HR.out (s ++ ⟨#[32]⟩) (by rw [ByteArray.size_append]; show s.size + 1 ≤ maxLen; unfold maxLen; omega))
    have HR3 := Lib.hid (HR.out (⟨#[32]⟩ ++ s) (by rw [ByteArray.size_append]; show 1 + s.size ≤ maxLen; unfold maxLen; omega))
    generalize readB (s.extract 0 (s.size - 1)) = r1 at HR1 hla
    generalize readB (s ++ ⟨#[32]⟩) = r2 at HR2 HQ
    generalize readB (⟨#[32]⟩ ++ s) = r3 at HR3 HQ2
    obtain ⟨⟨k1, n1, d1', m1, t1⟩, b1⟩ := r1
    obtain ⟨⟨k2, n2, d2', m2, t2⟩, b2⟩ := r2
    obtain ⟨⟨k3, n3, d3', m3, t3⟩, b3⟩ := r3
    have hb2' : b2 = false := HQ.out
    have hb3' : b3 = false := HQ2.out
    subst hb2' hb3'
    simp only [readV, Ov.val] at HR1 HR2 HR3
    have HNO := Lib.hid (fun (h : b1 = true) => (show sameO ⟨k1, n1, d1', m1, t1⟩ ⟨kind, name, dest, num, text⟩ = false from by
      cases hq : sameO ⟨k1, n1, d1', m1, t1⟩ ⟨kind, name, dest, num, text⟩
      · rfl
      · exact absurd ((sameO_iff _ _).1 hq) (hla.out h)))
    have hN := fun W => HN.out ⟨k1, n1, d1', m1, t1⟩ W
    generalize sameO ⟨k1, n1, d1', m1, t1⟩ ⟨kind, name, dest, num, text⟩ = q at hN HNO
    simp only [Ov.val] at hN
    have HNN := Lib.hid hN
    clear hla HN hx1 HR HQ HQ2 hN
    go_wp2_with fail
    refine (HR1.out _ HV4.out).mono ?_
    rintro e w6 ⟨rfl, hb6⟩
    have HX6 := Lib.hid ((HX4.out.later hb6).later (new_below w6 (.cells #[.int .i64 k1, .string n1, .string d1', .int .i64 m1, .string t1] 24)))
    have HY6 := Lib.hid (OBx.new w6 ⟨k1, n1, d1', m1, t1⟩)
    simp only at HY6
    have HL6 := Lib.hid ((HX4.out.later hb6).lt)
    have HB6 := Lib.hid ((bnext HB4.out hb6).alloc (bnext HB4.out hb6).size (.cells #[.int .i64 k1, .string n1, .string d1', .int .i64 m1, .string t1] 24))
    have HV6 := Lib.hid ((HV4.out.later hb6).later (new_below w6 (.cells #[.int .i64 k1, .string n1, .string d1', .int .i64 m1, .string t1] 24)))
    clear hb6 lt c0 c1 c2 c3 c4 HX4 HB4 HV4
    go_wp2_with fail
    refine (HR2.out _ HV6.out).mono ?_
    rintro e w7 ⟨rfl, hb7⟩
    have hb8 := new_below w7 (.cells #[.int .i64 k2, .string n2, .string d2', .int .i64 m2, .string t2] 24)
    have HX7 := Lib.hid ((HX6.out.later hb7).later hb8)
    have HY7 := Lib.hid ((HY6.out.later hb7).later hb8)
    have HB7 := Lib.hid (bnext (bnext HB6.out hb7) hb8)
    have HV7 := Lib.hid ((HV6.out.later hb7).later hb8)
    clear hb7 hb8 HX6 HY6 HB6 HV6
    go_wp2_with fail
    refine (HR3.out _ HV7.out).mono ?_
    rintro e w9 ⟨rfl, hb9⟩
    have hb10 := new_below w9 (.cells #[.int .i64 k3, .string n3, .string d3', .int .i64 m3, .string t3] 24)
    have HX9 := Lib.hid ((HX7.out.later hb9).later hb10)
    have HY9 := Lib.hid ((HY7.out.later hb9).later hb10)
    have HB9 := Lib.hid (bnext (bnext HB7.out hb9) hb10)
    have hy9 := (HY7.out.later hb9).lt
    have hx9 := (HX7.out.later hb9).lt
    clear hb9 hb10 HX7 HY7 HB7 HV7
    obtain ⟨lt, c0, c1, c2, c3, c4, _⟩ := HX9.out.all
    obtain ⟨mt, e0, e1, e2, e3, e4, _⟩ := HY9.out.all
    have hN := HNN.out
    cases b1
    · go_wp2_with fail
      go_ret
      exact ⟨rfl, HB9.out⟩
    · obtain rfl := HNO.out rfl
      simp only [Bool.not_false] at hN
      go_wp2_with fail
      go_ret
      exact ⟨rfl, HB9.out⟩

theorem met (os : Os) (args : Array Value) : laidMetH Tryd.prog Rows.fnOpCutRow.laid ((World.laidAll Tryd.prog os Rows.fnOpCutRow.laid).forCall (fun _ _ => 0) ⟨#[], args, []⟩).memory := by
  rw [MakeChecks.laidMetH_plain _ _ _ (by kernel_rfl)]
  exact laidMet_laidAll _ (by kernel_rfl) (by kernel_rfl)

set_option maxRecDepth 100000 in
theorem lifted (os : Os) (started : os.Started) (H : Type) (enc : TypeId × Value → H) :
    ReturnsInHanded {} Tryd.checked os 6 .any (fun w args => (Rows.fnOpCutSpec.pre enc Tryd.prog Tryd.f6 [] false w args ∧ laidMetH Tryd.prog Rows.fnOpCutRow.laid w) ∧ sizedMet enc Tryd.prog Tryd.f6 (OpenSpec.ofChange Rows.fnOpCutSpec) false w args)
      (Rows.fnOpCutSpec.post enc Tryd.prog Tryd.f6 false true false false) := by
  refine handed_laid (C := Tryd.checked) (X := fun w => laidMetH Tryd.prog Rows.fnOpCutRow.laid w) (fun _ _ hh h => h.of_heap hh) own started (by kernel_rfl) Tryd.func6
    (ChangeSpec.witness_shaped (enc := enc) (C := Tryd.checked) (os := os) (X := fun w _ => laidMetH Tryd.prog Rows.fnOpCutRow.laid w) false (World.laidAll Tryd.prog os Rows.fnOpCutRow.laid) #[.slice none 0 0] 8 (World.laidAll_os _ _ _) (World.shaped_of_ZipB (by kernel_rfl) (by kernel_rfl)) (by kernel_rfl) (by kernel_rfl) (by kernel_rfl) (met os _)) ?_
  intro W base args ds gs before hval0 hW hL hsh
  have hval : ∀ (j : Nat) t v, Tryd.f6.params[j]? = some t → args[j]? = some v → Value.okWide Tryd.prog W .any base t v := hval0
  have hW' := hW
  obtain ⟨p, q, hA0, hV, rfl, hfz, hnd⟩ := hW
  have hA : DataW.TrodAll enc Tryd.prog W 0 (fun _ => true) true Tryd.f6.params.toList args.toList ds p := hA0
  rw [Tryd.params6] at hA hval
  obtain ⟨v0, vs0, d0, ds0, p0, q0, hargs, rfl, rfl, h0, r0⟩ := trodAll_cons hA
  obtain ⟨rfl, rfl, rfl⟩ := trodAll_nil r0
  obtain rfl : args = #[v0] := by cases args; simp_all
  obtain ⟨d9, rfl, hv9⟩ := vars_one hV
  obtain ⟨pm, hvm⟩ := vars_of_laid hL hsh
  obtain ⟨a0, len0, cap0, rfl⟩ := okWide_slice Tryd.underlying22 (hval 0 22 v0 rfl rfl)
  have k0 := h0
  have lt0 : ∀ x ∈ p0, x.block < W.heap.size := by obtain ⟨m, hm⟩ := k0; exact DataW.trod_lt m _ _ _ hm
  obtain ⟨z0, w0⟩ : ∃ zs, IsRow .u8 W a0 len0 cap0 zs := by
    obtain ⟨fuel, hf⟩ := h0
    rcases open_ints Tryd.underlying22 Tryd.underlying5 (by kernel_rfl) hf with ⟨hcs, _⟩ | ⟨x, l, c, zs, hcs, _, hl, hm, hz, _, hcell, hwz⟩
    · simp [Value.cells] at hcs
      obtain ⟨rfl, rfl, rfl⟩ := hcs
      exact ⟨[], .inl ⟨rfl, rfl, rfl, rfl⟩⟩
    · simp [Value.cells] at hcs
      obtain ⟨rfl, rfl, rfl⟩ := hcs
      exact ⟨zs, .inr ⟨_, rfl, hl, hm, by simpa using hz, hcell, hwz⟩⟩
  clear hA0 hval0
  refine (walk W a0 len0 cap0 z0 w0 pm hvm).mono fun e W' ⟨he, bel⟩ => ?_
  subst he
  exact ⟨_, rfl, _, _, _, [], _, _, hW', trodAll_mk1 (shut_bool Tryd.underlying4 _), (trodAll_cons_mk (Below.trod laidOut (by kernel_rfl) (of_decide_eq_true (by kernel_rfl)) k0 bel lt0) trodAll_mk0), Below.trodVars laidOut bel (by kernel_rfl) hv9, bel.frame _, fun h => by cases h⟩

theorem closed : joinedFacts Tryd.prog 6 Tryd.f6 Rows.fnOpCutSpec Rows.fnOpCutRow = true := by
  unfold joinedFacts
  rewrite [head_may, head_lifts, head_make]
  kernel_rfl
theorem over : Rows.fnOpCutRow.holds Tryd.pinned (OpenSpec.ofChange Rows.fnOpCutSpec) :=
  OpenClaim.holds_of_wide 6 Tryd.f6 rfl rfl rfl rfl rfl rfl rfl ⟨rfl, rfl, rfl, rfl, rfl⟩ rfl rfl rfl rfl rfl (by kernel_rfl) Tryd.func6 closed
    (of_decide_eq_true (by kernel_rfl)) (by unfold Func.isWrapper; first | (rw [if_pos (by decide +kernel)]; kernel_rfl) | (rw [if_neg (by decide +kernel)]; exact ⟨rfl, rfl⟩))
    (fun os started H enc _ => lifted os started H enc)

theorem proved : Rows.FnOpCutCardSaid :=
  Claim7.holds_tied_plain_at .later [] [.data, .data, .data, .data, .sentinel, .sentinel, .sentinel, .pinned] true (true, "cc804952601688b809ab80a6f1cb388cd4d55860990d6773acb88f14ba794cd6") true
    over (fun _ h => by cases h) (by kernel_rfl) (fun _ h => by cases h) fnOpCut_row_tie rfl ⟨rfl, rfl⟩ (by kernel_rfl) rfl
    (fun f fn hf hfn => by
      obtain rfl : f = 6 := Option.some.inj ((show Tryd.prog.funcNamed "loop.example/garner/laws.FnOpCut" = some 6 by kernel_rfl).symm.trans hf) |>.symm
      obtain rfl : fn = Tryd.f6 := (Option.some.inj (Tryd.func6.symm.trans hfn)).symm
      exact ⟨by kernel_rfl, fun j t ht => by
        rw [Tryd.params6] at ht
        have hm : t ∈ [22] := by simpa using Array.mem_of_getElem? ht
        have hall : ([22].all fun u => !Tryd.prog.wantsStandIn u) = true := by kernel_rfl
        exact (show Tryd.prog.wantsStandIn t = false by simpa using List.all_eq_true.1 hall t hm)⟩)
    (by kernel_rfl)
#print axioms proved
end Go.Proofs.YtplicodloanljaaDoor.fnOpCut
