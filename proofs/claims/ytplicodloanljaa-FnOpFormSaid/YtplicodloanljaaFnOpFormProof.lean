/- For every code the law FnOpForm returns true and leaves it as it was. No condition. -/
import Derived.Test.YtplicodloanljaaRows
import Derived.WalkKit
import Derived.ProofKit
import Derived.OpenShut
import Derived.ShutString
import Derived.ChangeOld
import Derived.Below
import Derived.Test.YtplicodloanljaaHead
import Derived.Test.YtplicodloanljaaDrawOp
import Derived.Test.YtplicodloanljaaOpOk
import Derived.Deep.CutRange
namespace Go.Proofs.Ytplicodloanljaa.fnOpForm
open Go.ChangeShapes Go.WideShapes Go.ChangeAt Go.RowKit
open Go.ChangeMaps (open_string shut_string)
set_option linter.unusedVariables false

theorem own : ownKnob Try.prog.godebug = none := by kernel_rfl
theorem laidOut : laidOutB Try.prog = true := by kernel_rfl

def IsRow (k : IntKind) (w : World) (a : Option Addr) (len cap : Nat) (zs : List Int) : Prop :=
  (a = none ∧ len = 0 ∧ cap = 0 ∧ zs = []) ∨
  ∃ x, a = some x ∧ len ≤ cap ∧ cap ≤ maxLen ∧ zs.length = cap ∧ (∀ i, i < zs.length → w.cell? (x.add i) = some (.int k (zs.getD i 0))) ∧ ∀ n ∈ zs, (Lit.int k n).wf = true

theorem opB_E (o : Ov) : opB ⟨o.kind, ⟨#[69]⟩, o.dest, o.num, o.text⟩ = false := by
  have : nameB (⟨#[69]⟩ : ByteArray).data.toList = false := by decide
  simp [opB, this]
theorem opB_7 (o : Ov) : opB ⟨o.kind, o.name, o.dest, 7, o.text⟩ = false := by
  simp [opB]
theorem opB_toE (o : Ov) : opB ⟨o.kind, o.name, ⟨#[69]⟩, o.num, o.text⟩ = false := by
  have h1 : nameB (⟨#[69]⟩ : ByteArray).data.toList = false := by decide
  have h2 : emp (⟨#[69]⟩ : ByteArray) = false := by unfold emp; rw [ByteArray.toList_eq]; decide
  simp [opB, h1, h2]
theorem opB_5 (o : Ov) : opB ⟨5, o.name, o.dest, o.num, o.text⟩ = false := by
  simp [opB]
theorem opsm_fit {o : Ov} (h : OpSm o) (k n : Int) : OpFits ⟨k, ⟨#[69]⟩, o.dest, n, o.text⟩ ∧ OpFits ⟨k, o.name, ⟨#[69]⟩, n, o.text⟩ ∧ OpFits ⟨k, o.name, o.dest, n, o.text⟩ := by
  have f := h.fits
  have e : (⟨#[69]⟩ : ByteArray).size ≤ maxLen := by decide
  exact ⟨⟨e, f.dest, f.text⟩, ⟨f.name, e, f.text⟩, ⟨f.name, f.dest, f.text⟩⟩
/-- A change as a block of memory. -/
def ob (o : Ov) : Obj := .cells #[.int .i64 o.kind, .string o.name, .string o.dest, .int .i64 o.num, .string o.text] 24
theorem boxes4 (w : World) (p1 p2 p3 p4 : Ov) : OBx (w.heap.size + 1) p2 ((((w.alloc (ob p1)).alloc (ob p2)).alloc (ob p3)).alloc (ob p4)) ∧
    OBx (w.heap.size + 1 + 1) p3 ((((w.alloc (ob p1)).alloc (ob p2)).alloc (ob p3)).alloc (ob p4)) ∧ OBx (w.heap.size + 1 + 1 + 1) p4 ((((w.alloc (ob p1)).alloc (ob p2)).alloc (ob p3)).alloc (ob p4)) ∧
    Below w.heap.size w ((((w.alloc (ob p1)).alloc (ob p2)).alloc (ob p3)).alloc (ob p4)) := by
  have e1 : (w.alloc (ob p1)).heap.size = w.heap.size + 1 := World.size_alloc _ _
  have e2 : ((w.alloc (ob p1)).alloc (ob p2)).heap.size = w.heap.size + 1 + 1 := by rw [World.size_alloc, e1]
  have e3 : (((w.alloc (ob p1)).alloc (ob p2)).alloc (ob p3)).heap.size = w.heap.size + 1 + 1 + 1 := by rw [World.size_alloc, e2]
  have h2 := OBx.new (w.alloc (ob p1)) p2
  have h3 := OBx.new ((w.alloc (ob p1)).alloc (ob p2)) p3
  have h4 := OBx.new (((w.alloc (ob p1)).alloc (ob p2)).alloc (ob p3)) p4
  rw [e1] at h2
  rw [e2] at h3
  rw [e3] at h4
  have b1 := new_below w (ob p1)
  have b2 := b1.alloc (by omega) (ob p2)
  have b3 := b2.alloc (by omega) (ob p3)
  have b4 := b3.alloc (by omega) (ob p4)
  exact ⟨(h2.later (new_below _ (ob p3))).later (new_below _ (ob p4)), h3.later (new_below _ (ob p4)), h4, b4⟩

set_option maxRecDepth 100000 in
set_option maxHeartbeats 800000 in
theorem walk (w : World) (a0 : Option Addr) (len0 cap0 : Nat) (z0 : List Int) (w0 : IsRow .u8 w a0 len0 cap0 z0) :
    Calls Try.prog 3 #[.slice a0 len0 cap0] w fun e w' => e = .returned (.bool true) ∧ Below w.heap.size w w' := by
  obtain ⟨hr8, hlc, hc⟩ := row8 w0
  clear w0
  by_cases hbig : (1048576 : Int) < len0
  · have d1 : decide ((1048576 : Int) < len0) = true := by simpa using hbig
    go_enter Try.func3, Try.ntmps3
    go_wp2
    go_ret
    exact ⟨rfl, Below.refl _ _⟩
  have d1 : decide ((1048576 : Int) < len0) = false := by simpa using hbig
  have hd := drawOpOk_any a0 len0 cap0 w hlc hc hr8
  clear hr8
  go_enter Try.func3, Try.ntmps3
  go_wp2_with fail
  refine hd.mono ?_
  rintro e w2 ⟨o, rfl, hsm, hb2⟩
  clear hd
  have HB2 := Lib.hid hb2
  clear hb2
  have HX := Lib.hid (OBx.new w2 o)
  have HI := Lib.hid (fun W => opOk_any o W hsm.fits)
  have HS := Lib.hid (fun W => opOkS_any o W hsm.fits)
  have HA := Lib.hid (fun W => opOk_any ⟨o.kind, ⟨#[69]⟩, o.dest, o.num, o.text⟩ W (opsm_fit hsm _ _).1)
  have HB := Lib.hid (fun W => opOk_any ⟨o.kind, o.name, o.dest, 7, o.text⟩ W (opsm_fit hsm _ _).2.2)
  have HC := Lib.hid (fun W => opOk_any ⟨o.kind, o.name, ⟨#[69]⟩, o.num, o.text⟩ W (opsm_fit hsm _ _).2.1)
  have HD := Lib.hid (fun W => opOk_any ⟨5, o.name, o.dest, o.num, o.text⟩ W (opsm_fit hsm _ _).2.2)
  rw [opB_E] at HA
  rw [opB_7] at HB
  rw [opB_toE] at HC
  rw [opB_5] at HD
  clear hsm
  obtain ⟨kind, name, dest, num, text⟩ := o
  simp only [Ov.val] at HI HS HA HB HC HD HX ⊢
  cases hv : opB ⟨kind, name, dest, num, text⟩
  · rw [hv] at HI HS
    clear hv HA HB HC HD
    obtain ⟨lt, c0, c1, c2, c3, c4, _⟩ := HX.out.all
    go_wp2_with fail
    refine (HI.out _).mono ?_
    rintro e w3 ⟨rfl, hb3⟩
    have HX3 := Lib.hid (HX.out.later hb3)
    have HB3 := Lib.hid (bnext ((HB2.out).alloc HB2.out.size _) hb3)
    clear hb3 lt c0 c1 c2 c3 c4 HX HB2
    obtain ⟨lt, c0, c1, c2, c3, c4, _⟩ := HX3.out.all
    go_wp2_with fail
    refine (HS.out _).mono ?_
    rintro e w4 ⟨rfl, hb4⟩
    have HX4 := Lib.hid (HX3.out.later hb4)
    have HB4 := Lib.hid (bnext HB3.out hb4)
    clear hb4 lt c0 c1 c2 c3 c4 HX3 HB3
    obtain ⟨lt, c0, c1, c2, c3, c4, _⟩ := HX4.out.all
    go_wp2_with fail
    refine (HS.out _).mono ?_
    rintro e w5 ⟨rfl, hb5⟩
    have HB5 := Lib.hid (bnext HB4.out hb5)
    clear hb5 lt c0 c1 c2 c3 c4
    go_wp2_with fail
    go_ret
    exact ⟨rfl, HB5.out⟩
  · rw [hv] at HI HS
    clear hv
    obtain ⟨lt, c0, c1, c2, c3, c4, _⟩ := HX.out.all
    go_wp2_with fail
    refine (HI.out _).mono ?_
    rintro e w3 ⟨rfl, hb3⟩
    have HX3 := Lib.hid (HX.out.later hb3)
    have HB3 := Lib.hid (bnext ((HB2.out).alloc HB2.out.size _) hb3)
    clear hb3 lt c0 c1 c2 c3 c4 HX HB2
    obtain ⟨lt, c0, c1, c2, c3, c4, _⟩ := HX3.out.all
    go_wp2_with fail
    refine (HS.out _).mono ?_
    rintro e w4 ⟨rfl, hb4⟩
    have HX4 := Lib.hid (HX3.out.later hb4)
    have HB4 := Lib.hid (bnext HB3.out hb4)
    clear hb4 lt c0 c1 c2 c3 c4 HX3 HB3
    obtain ⟨lt, c0, c1, c2, c3, c4, _⟩ := HX4.out.all
    have l1 : w2.heap.size < w4.heap.size + 1 := Nat.lt_succ_of_lt lt
    have l2 : w2.heap.size < w4.heap.size + 1 + 1 := Nat.lt_succ_of_lt l1
    have n2 : ¬ w2.heap.size = w4.heap.size + 1 + 1 := Nat.ne_of_lt l2
    go_wp2_with fail
    have hbx := boxes4 w4 ⟨kind, ⟨#[69]⟩, dest, num, text⟩ ⟨kind, name, dest, 7, text⟩ ⟨kind, name, ⟨#[69]⟩, num, text⟩ ⟨5, name, dest, num, text⟩
    simp only [ob] at hbx
    obtain ⟨x2, x3, x4, hbb⟩ := hbx
    have HB5 := Lib.hid (bnext HB4.out hbb)
    clear hbb l1 l2 n2 lt c0 c1 c2 c3 c4 HX4 HB4
    refine (HA.out _).mono ?_
    rintro e w6 ⟨rfl, hb6⟩
    have HX3 := Lib.hid (x3.later hb6)
    have HX4 := Lib.hid (x4.later hb6)
    have HX2 := Lib.hid (x2.later hb6)
    have HB6 := Lib.hid (bnext HB5.out hb6)
    clear x2 x3 x4 hb6 HB5
    obtain ⟨lt, c0, c1, c2, c3, c4, _⟩ := HX2.out.all
    go_wp2_with fail
    clear lt c0 c1 c2 c3 c4
    refine (HB.out _).mono ?_
    rintro e w7 ⟨rfl, hb7⟩
    have HY3 := Lib.hid (HX3.out.later hb7)
    have HY4 := Lib.hid (HX4.out.later hb7)
    have HB7 := Lib.hid (bnext HB6.out hb7)
    clear HX2 HX3 HX4 hb7 HB6
    obtain ⟨lt, c0, c1, c2, c3, c4, _⟩ := HY3.out.all
    go_wp2_with fail
    clear lt c0 c1 c2 c3 c4
    refine (HC.out _).mono ?_
    rintro e w8 ⟨rfl, hb8⟩
    have HZ4 := Lib.hid (HY4.out.later hb8)
    have HB8 := Lib.hid (bnext HB7.out hb8)
    clear HY3 HY4 hb8 HB7
    obtain ⟨lt, c0, c1, c2, c3, c4, _⟩ := HZ4.out.all
    go_wp2_with fail
    clear lt c0 c1 c2 c3 c4
    refine (HD.out _).mono ?_
    rintro e w9 ⟨rfl, hb9⟩
    have HB9 := Lib.hid (bnext HB8.out hb9)
    clear hb9 HB8
    go_wp2_with fail
    go_ret
    exact ⟨rfl, HB9.out⟩

set_option maxRecDepth 100000 in
theorem lifted (os : Os) (started : os.Started) (H : Type) (enc : TypeId × Value → H) :
    ReturnsInHanded {} Try.checked os 3 .any (Rows.fnOpFormSpec.pre6 enc Try.prog Try.f3 Rows.fnOpFormRow.domain false) (Rows.fnOpFormSpec.post enc Try.prog Try.f3 false true false false) := by
  refine returnsInHanded_of_change (C := Try.checked) own started (by kernel_rfl) Try.func3
    (ChangeSpec.witness6 (enc := enc) (C := Try.checked) false ⟨#[], #[.slice none 0 0], []⟩ 8 (by kernel_rfl) (by kernel_rfl) (by kernel_rfl) (by kernel_rfl)) ?_
  intro W base args ds gs before hval0 hW hcnd _
  have hval : ∀ (j : Nat) t v, Try.f3.params[j]? = some t → args[j]? = some v → Value.okWide Try.prog W .any base t v := hval0
  have hW' := hW
  obtain ⟨p, q, hA0, hV, rfl, hfz, hnd⟩ := hW
  have hA : DataW.TrodAll enc Try.prog W 0 (fun _ => true) true Try.f3.params.toList args.toList ds p := hA0
  rw [Try.params3] at hA hval
  obtain ⟨v0, vs0, d0, ds0, p0, q0, hargs, rfl, rfl, h0, r0⟩ := trodAll_cons hA
  obtain ⟨rfl, rfl, rfl⟩ := trodAll_nil r0
  obtain rfl : args = #[v0] := by cases args; simp_all
  obtain ⟨rfl, rfl⟩ := trodVars_none hV
  obtain ⟨a0, len0, cap0, rfl⟩ := okWide_slice Try.underlying22 (hval 0 22 v0 rfl rfl)
  have k0 := h0
  have lt0 : ∀ x ∈ p0, x.block < W.heap.size := by obtain ⟨m, hm⟩ := k0; exact DataW.trod_lt m _ _ _ hm
  obtain ⟨z0, w0⟩ : ∃ zs, IsRow .u8 W a0 len0 cap0 zs := by
    obtain ⟨fuel, hf⟩ := h0
    rcases open_ints Try.underlying22 Try.underlying5 (by kernel_rfl) hf with ⟨hcs, _⟩ | ⟨x, l, c, zs, hcs, _, hl, hm, hz, _, hcell, hwz⟩
    · simp [Value.cells] at hcs
      obtain ⟨rfl, rfl, rfl⟩ := hcs
      exact ⟨[], .inl ⟨rfl, rfl, rfl, rfl⟩⟩
    · simp [Value.cells] at hcs
      obtain ⟨rfl, rfl, rfl⟩ := hcs
      exact ⟨zs, .inr ⟨_, rfl, hl, hm, by simpa using hz, hcell, hwz⟩⟩
  clear hA0 hval0
  refine (walk W a0 len0 cap0 z0 w0).mono fun e W' ⟨he, bel⟩ => ?_
  subst he
  exact ⟨_, rfl, _, _, _, [], _, [], hW', trodAll_mk1 (shut_bool Try.underlying4 _), (trodAll_cons_mk (Below.trod laidOut (by kernel_rfl) (of_decide_eq_true (by kernel_rfl)) k0 bel lt0) trodAll_mk0), rfl, bel.frame _, fun h => by cases h⟩

theorem closed : joinedFacts Try.prog 3 Try.f3 Rows.fnOpFormSpec Rows.fnOpFormRow = true := by
  unfold joinedFacts
  rewrite [head_may, head_lifts, head_make]
  kernel_rfl
theorem over : Rows.fnOpFormRow.holds Try.pinned (OpenSpec.ofChange Rows.fnOpFormSpec) :=
  OpenClaim.holds_of_wide 3 Try.f3 rfl rfl rfl rfl rfl rfl rfl ⟨rfl, rfl, rfl, rfl, rfl⟩ rfl rfl rfl rfl rfl (by kernel_rfl) Try.func3 closed
    (of_decide_eq_true (by kernel_rfl)) (by unfold Func.isWrapper; first | (rw [if_pos (by decide +kernel)]; kernel_rfl) | (rw [if_neg (by decide +kernel)]; exact ⟨rfl, rfl⟩))
    (fun os started H enc _ => lifted os started H enc)

theorem proved : Rows.FnOpFormSaid := over
#print axioms proved
end Go.Proofs.Ytplicodloanljaa.fnOpForm
