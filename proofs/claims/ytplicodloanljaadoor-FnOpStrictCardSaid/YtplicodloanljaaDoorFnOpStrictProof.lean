/- For every code the law FnOpStrict returns true and leaves it and the program's own error as they were; the variables that the row lists are as the program's text lays them. No other condition. -/
import Derived.Test.YtplicodloanljaaDoorRows
import Derived.WalkKit
import Derived.ProofKit
import Derived.OpenShut
import Derived.ShutString
import Derived.ChangeOld
import Derived.Below
import Derived.Test.YtplicodloanljaaDoorHead
import Derived.Test.YtplicodloanljaaDoorLaid
import Derived.Test.YtplicodloanljaaDoorCards
import Derived.Test.YtplicodloanljaaDoorTie
import Derived.SevenTiedAt
import Derived.Lay
import Derived.Test.YtplicodloanljaaDoorLaidVars
import Derived.Test.YtplicodloanljaaDoorOpReadP
import Derived.Deep.CutRange
namespace Go.Proofs.YtplicodloanljaaDoor.fnOpStrict
open Go.ChangeShapes Go.WideShapes Go.ChangeAt Go.RowKit
open Go.ChangeMaps (open_string shut_string)
set_option linter.unusedVariables false

theorem own : ownKnob Tryd.prog.godebug = none := by kernel_rfl
theorem laidOut : laidOutB Tryd.prog = true := by kernel_rfl

def IsRow (k : IntKind) (w : World) (a : Option Addr) (len cap : Nat) (zs : List Int) : Prop :=
  (a = none ∧ len = 0 ∧ cap = 0 ∧ zs = []) ∨
  ∃ x, a = some x ∧ len ≤ cap ∧ cap ≤ maxLen ∧ zs.length = cap ∧ (∀ i, i < zs.length → w.cell? (x.add i) = some (.int k (zs.getD i 0))) ∧ ∀ n ∈ zs, (Lit.int k n).wf = true

theorem opB_fits {o : Ov} (h : opB o = true) : OpFits o := by
  obtain ⟨kind, name, dest, num, text⟩ := o
  have h0 := h
  unfold opB at h
  simp only [Bool.and_eq_true] at h
  obtain ⟨hn, h⟩ := h
  have e0 : (⟨#[]⟩ : ByteArray).size ≤ maxLen := by decide
  have en := nameB_size name hn
  have fn : name.size ≤ maxLen := by unfold maxLen; omega
  by_cases h1 : kind = 1
  · subst h1; simp at h
    obtain ⟨⟨hd, _⟩, ht⟩ := h
    rw [emp_nil hd, emp_nil ht]
    exact ⟨fn, e0, e0⟩
  by_cases h2 : kind = 2
  · subst h2; simp at h
    obtain ⟨⟨hd, _⟩, _⟩ := h
    obtain ⟨_, hp⟩ := opB_parts h0
    simp at hp
    rw [emp_nil hd]
    exact ⟨fn, e0, by show text.size ≤ maxLen; unfold maxLen; omega⟩
  by_cases h3 : kind = 3
  · subst h3; simp at h
    obtain ⟨⟨hd, _⟩, ht⟩ := h
    have := nameB_size dest hd
    rw [emp_nil ht]
    exact ⟨fn, by show dest.size ≤ maxLen; unfold maxLen; omega, e0⟩
  by_cases h4 : kind = 4
  · subst h4; simp at h
    obtain ⟨⟨hd, _⟩, ht⟩ := h
    rw [emp_nil hd, emp_nil ht]
    exact ⟨fn, e0, e0⟩
  · simp [h1, h2, h3, h4] at h

set_option maxRecDepth 100000 in
set_option maxHeartbeats 800000 in
theorem walk (w : World) (a0 : Option Addr) (len0 cap0 : Nat) (z0 : List Int) (w0 : IsRow .u8 w a0 len0 cap0 z0) (pm : Addr) (hvm : Vars pm w) :
    Calls Tryd.prog 4 #[.slice a0 len0 cap0] w fun e w' => e = .returned (.bool true) ∧ Below w.heap.size w w' := by
  obtain ⟨hr8, hlc, hc⟩ := row8 w0
  clear w0
  by_cases hbig : (1048576 : Int) < len0
  · have d1 : decide ((1048576 : Int) < len0) = true := by simpa using hbig
    go_enter Tryd.func4, Tryd.ntmps4
    go_wp2
    go_ret
    exact ⟨rfl, Below.refl _ _⟩
  have d1 : decide ((1048576 : Int) < len0) = false := by simpa using hbig
  have hd := drawOpRead_any a0 len0 cap0 w hlc hc hr8
  have HV := Lib.hid hvm
  clear hr8 hvm
  go_enter Tryd.func4, Tryd.ntmps4
  go_wp2_with fail
  refine hd.mono ?_
  rintro e w2 ⟨s, rfl, hsz, hb2⟩
  clear hd
  have HV2 := Lib.hid (HV.out.later hb2)
  have HB2 := Lib.hid hb2
  have hm : s.size ≤ maxLen := by unfold maxLen; omega
  have HS := Lib.hid (fun W => opReadS s W hm)
  have HI := Lib.hid (fun W hv => opRead_any s hm pm W hv)
  have HO : Hid ((readB s).2 = true → opB (readB s).1 = true ∧ opT (readB s).1 = s) := Lib.hid (fun h => readB_ok h)
  clear hb2 hsz hm
  generalize readB s = r at HS HI HO
  obtain ⟨⟨kind, name, dest, num, text⟩, b⟩ := r
  simp only [readV, Ov.val] at HS HI HO
  have hE := eql_op ⟨kind, name, dest, num, text⟩ ⟨kind, name, dest, num, text⟩
  have hN := neq_op ⟨kind, name, dest, num, text⟩ ⟨kind, name, dest, num, text⟩
  rw [(sameO_iff _ _).2 rfl] at hE hN
  simp only [Ov.val, Bool.not_true] at hE hN
  go_wp2_with fail
  refine (HS.out _).mono ?_
  rintro e w3 ⟨rfl, hb3⟩
  have HX := Lib.hid (OBx.new w3 ⟨kind, name, dest, num, text⟩)
  simp only at HX
  have HB3 := Lib.hid ((bnext HB2.out hb3).alloc (bnext HB2.out hb3).size (.cells #[.int .i64 kind, .string name, .string dest, .int .i64 num, .string text] 24))
  have HV3 := Lib.hid (((HV2.out.later hb3)).later (new_below w3 (.cells #[.int .i64 kind, .string name, .string dest, .int .i64 num, .string text] 24)))
  clear hb3
  go_wp2_with fail
  refine (HI.out _ HV3.out).mono ?_
  rintro e w4 ⟨rfl, hb4⟩
  have HX4 := Lib.hid ((HX.out.later hb4).later (new_below w4 (.cells #[.int .i64 kind, .string name, .string dest, .int .i64 num, .string text] 24)))
  have HY4 := Lib.hid (OBx.new w4 ⟨kind, name, dest, num, text⟩)
  simp only at HY4
  have hl := (HX.out.later hb4).lt
  have HB4 := Lib.hid ((bnext HB3.out hb4).alloc (bnext HB3.out hb4).size (.cells #[.int .i64 kind, .string name, .string dest, .int .i64 num, .string text] 24))
  clear hb4 HX HB3 HV3
  have hbb : (b != b) = false := by simp
  have hbe : (b == b) = true := by simp
  obtain ⟨lt, c0, c1, c2, c3, c4, _⟩ := HX4.out.all
  obtain ⟨mt, e0, e1, e2, e3, e4, _⟩ := HY4.out.all
  cases b
  · go_wp2_with fail
    go_ret
    exact ⟨rfl, HB4.out⟩
  · obtain ⟨ho, ht⟩ := HO.out rfl
    have hf : OpFits ⟨kind, name, dest, num, text⟩ := opB_fits ho
    have HK := Lib.hid (fun W => opOk_any ⟨kind, name, dest, num, text⟩ W hf)
    have HT := Lib.hid (fun W => opText_any ⟨kind, name, dest, num, text⟩ W hf)
    rw [ho] at HK
    rw [ht] at HT
    simp only [Ov.val] at HK HT
    have hse : (s.toList == s.toList) = true := by simp
    clear ho ht hf HO
    go_wp2_with fail
    refine (HK.out _).mono ?_
    rintro e w6 ⟨rfl, hb6⟩
    have HY6 := Lib.hid (HY4.out.later hb6)
    have HB6 := Lib.hid (bnext HB4.out hb6)
    clear hb6 lt c0 c1 c2 c3 c4 mt e0 e1 e2 e3 e4
    obtain ⟨mt, e0, e1, e2, e3, e4, _⟩ := HY6.out.all
    go_wp2_with fail
    refine (HT.out _).mono ?_
    rintro e w7 ⟨rfl, hb7⟩
    have HB7 := Lib.hid (bnext HB6.out hb7)
    clear hb7
    go_wp2_with fail
    go_ret
    exact ⟨rfl, HB7.out⟩

theorem met (os : Os) (args : Array Value) : laidMetH Tryd.prog Rows.fnOpStrictRow.laid ((World.laidAll Tryd.prog os Rows.fnOpStrictRow.laid).forCall (fun _ _ => 0) ⟨#[], args, []⟩).memory := by
  rw [MakeChecks.laidMetH_plain _ _ _ (by kernel_rfl)]
  exact laidMet_laidAll _ (by kernel_rfl) (by kernel_rfl)

set_option maxRecDepth 100000 in
theorem lifted (os : Os) (started : os.Started) (H : Type) (enc : TypeId × Value → H) :
    ReturnsInHanded {} Tryd.checked os 4 .any (fun w args => (Rows.fnOpStrictSpec.pre enc Tryd.prog Tryd.f4 [] false w args ∧ laidMetH Tryd.prog Rows.fnOpStrictRow.laid w) ∧ sizedMet enc Tryd.prog Tryd.f4 (OpenSpec.ofChange Rows.fnOpStrictSpec) false w args)
      (Rows.fnOpStrictSpec.post enc Tryd.prog Tryd.f4 false true false false) := by
  refine handed_laid (C := Tryd.checked) (X := fun w => laidMetH Tryd.prog Rows.fnOpStrictRow.laid w) (fun _ _ hh h => h.of_heap hh) own started (by kernel_rfl) Tryd.func4
    (ChangeSpec.witness_shaped (enc := enc) (C := Tryd.checked) (os := os) (X := fun w _ => laidMetH Tryd.prog Rows.fnOpStrictRow.laid w) false (World.laidAll Tryd.prog os Rows.fnOpStrictRow.laid) #[.slice none 0 0] 8 (World.laidAll_os _ _ _) (World.shaped_of_ZipB (by kernel_rfl) (by kernel_rfl)) (by kernel_rfl) (by kernel_rfl) (by kernel_rfl) (met os _)) ?_
  intro W base args ds gs before hval0 hW hL hsh
  have hval : ∀ (j : Nat) t v, Tryd.f4.params[j]? = some t → args[j]? = some v → Value.okWide Tryd.prog W .any base t v := hval0
  have hW' := hW
  obtain ⟨p, q, hA0, hV, rfl, hfz, hnd⟩ := hW
  have hA : DataW.TrodAll enc Tryd.prog W 0 (fun _ => true) true Tryd.f4.params.toList args.toList ds p := hA0
  rw [Tryd.params4] at hA hval
  obtain ⟨v0, vs0, d0, ds0, p0, q0, hargs, rfl, rfl, h0, r0⟩ := trodAll_cons hA
  obtain ⟨rfl, rfl, rfl⟩ := trodAll_nil r0
  obtain rfl : args = #[v0] := by cases args; simp_all
  obtain ⟨d9, rfl, hv9⟩ := vars_one hV
  obtain ⟨pm, hvm⟩ := vars_of_laid hL hsh
  obtain ⟨a0, len0, cap0, rfl⟩ := okWide_slice Tryd.underlying22 (hval 0 22 v0 rfl rfl)
  have k0 := h0
  have lt0 : ∀ x ∈ p0, x.block < W.heap.size := by obtain ⟨m, hm⟩ := k0; exact DataW.trod_lt m _ _ _ hm
  obtain ⟨z0, w0⟩ : ∃ zs, IsRow .u8 W a0 len0 cap0 zs := by
    obtain ⟨fuel, hf⟩ := h0
    rcases open_ints Tryd.underlying22 Tryd.underlying5 (by kernel_rfl) hf with ⟨hcs, _⟩ | ⟨x, l, c, zs, hcs, _, hl, hm, hz, _, hcell, hwz⟩
    · simp [Value.cells] at hcs
      obtain ⟨rfl, rfl, rfl⟩ := hcs
      exact ⟨[], .inl ⟨rfl, rfl, rfl, rfl⟩⟩
    · simp [Value.cells] at hcs
      obtain ⟨rfl, rfl, rfl⟩ := hcs
      exact ⟨zs, .inr ⟨_, rfl, hl, hm, by simpa using hz, hcell, hwz⟩⟩
  clear hA0 hval0
  refine (walk W a0 len0 cap0 z0 w0 pm hvm).mono fun e W' ⟨he, bel⟩ => ?_
  subst he
  exact ⟨_, rfl, _, _, _, [], _, _, hW', trodAll_mk1 (shut_bool Tryd.underlying4 _), (trodAll_cons_mk (Below.trod laidOut (by kernel_rfl) (of_decide_eq_true (by kernel_rfl)) k0 bel lt0) trodAll_mk0), Below.trodVars laidOut bel (by kernel_rfl) hv9, bel.frame _, fun h => by cases h⟩

theorem closed : joinedFacts Tryd.prog 4 Tryd.f4 Rows.fnOpStrictSpec Rows.fnOpStrictRow = true := by
  unfold joinedFacts
  rewrite [head_may, head_lifts, head_make]
  kernel_rfl
theorem over : Rows.fnOpStrictRow.holds Tryd.pinned (OpenSpec.ofChange Rows.fnOpStrictSpec) :=
  OpenClaim.holds_of_wide 4 Tryd.f4 rfl rfl rfl rfl rfl rfl rfl ⟨rfl, rfl, rfl, rfl, rfl⟩ rfl rfl rfl rfl rfl (by kernel_rfl) Tryd.func4 closed
    (of_decide_eq_true (by kernel_rfl)) (by unfold Func.isWrapper; first | (rw [if_pos (by decide +kernel)]; kernel_rfl) | (rw [if_neg (by decide +kernel)]; exact ⟨rfl, rfl⟩))
    (fun os started H enc _ => lifted os started H enc)

theorem proved : Rows.FnOpStrictCardSaid :=
  Claim7.holds_tied_plain_at .later [] [.data, .data, .data, .data, .sentinel, .sentinel, .sentinel, .pinned] true (true, "cc804952601688b809ab80a6f1cb388cd4d55860990d6773acb88f14ba794cd6") true
    over (fun _ h => by cases h) (by kernel_rfl) (fun _ h => by cases h) fnOpStrict_row_tie rfl ⟨rfl, rfl⟩ (by kernel_rfl) rfl
    (fun f fn hf hfn => by
      obtain rfl : f = 4 := Option.some.inj ((show Tryd.prog.funcNamed "loop.example/garner/laws.FnOpStrict" = some 4 by kernel_rfl).symm.trans hf) |>.symm
      obtain rfl : fn = Tryd.f4 := (Option.some.inj (Tryd.func4.symm.trans hfn)).symm
      exact ⟨by kernel_rfl, fun j t ht => by
        rw [Tryd.params4] at ht
        have hm : t ∈ [22] := by simpa using Array.mem_of_getElem? ht
        have hall : ([22].all fun u => !Tryd.prog.wantsStandIn u) = true := by kernel_rfl
        exact (show Tryd.prog.wantsStandIn t = false by simpa using List.all_eq_true.1 hall t hm)⟩)
    (by kernel_rfl)
#print axioms proved
end Go.Proofs.YtplicodloanljaaDoor.fnOpStrict
