/- For every code the law FnVolUses returns true and leaves the code as it was. No condition. -/
import Derived.Test.YtgogokahpmljbaaRows
import Derived.WalkKit
import Derived.ProofKit
import Derived.OpenShut
import Derived.ShutString
import Derived.ChangeOld
import Derived.Below
import Derived.Test.YtgogokahpmljbaaHead
import Derived.Test.YtgogokahpmljbaaDrawVol
import Derived.Test.YtgogokahpmljbaaVolI
namespace Go.Proofs.Ytgogokahpmljbaa.fnVolUses
open Go.ChangeShapes Go.WideShapes Go.ChangeAt Go.RowKit
open Go.ChangeMaps (open_string shut_string)
set_option linter.unusedVariables false

theorem own : ownKnob Try.prog.godebug = none := by kernel_rfl
theorem laidOut : laidOutB Try.prog = true := by kernel_rfl

def IsRow (k : IntKind) (w : World) (a : Option Addr) (len cap : Nat) (zs : List Int) : Prop :=
  (a = none ∧ len = 0 ∧ cap = 0 ∧ zs = []) ∨
  ∃ x, a = some x ∧ len ≤ cap ∧ cap ≤ maxLen ∧ zs.length = cap ∧ (∀ i, i < zs.length → w.cell? (x.add i) = some (.int k (zs.getD i 0))) ∧ ∀ n ∈ zs, (Lit.int k n).wf = true

/-- How often the places up to k stand there. -/
def sumU (bs : List Int) : Nat → Int
  | 0 => 0
  | k + 1 => sumU bs k + (bs.count ((k : Int) + 1) : Nat)
theorem sumU_nil : ∀ k, sumU [] k = 0
  | 0 => rfl
  | k + 1 => by simp [sumU, sumU_nil k]
theorem sumU_cons (b : Int) (bs : List Int) : ∀ k : Nat, sumU (b :: bs) k = sumU bs k + (if 1 ≤ b ∧ b ≤ (k : Int) then 1 else 0)
  | 0 => by
    have h : ¬ (1 ≤ b ∧ b ≤ ((0 : Nat) : Int)) := by omega
    rw [if_neg h]; rfl
  | k + 1 => by
    have ih := sumU_cons b bs k
    have hs : ∀ l, sumU l (k + 1) = sumU l k + (l.count ((k : Int) + 1) : Nat) := fun _ => rfl
    rw [hs, hs, ih, List.count_cons]
    by_cases e : b = (k : Int) + 1
    · have n1 : ¬ (1 ≤ b ∧ b ≤ (k : Int)) := by omega
      have p1 : 1 ≤ b ∧ b ≤ ((k + 1 : Nat) : Int) := by push_cast; omega
      have q1 : (b == (k : Int) + 1) = true := by simpa using e
      rw [if_neg n1, if_pos q1, if_pos p1]; push_cast; omega
    · have q1 : ¬ (b == (k : Int) + 1) = true := by simpa using e
      rw [if_neg q1]
      by_cases h2 : 1 ≤ b ∧ b ≤ (k : Int)
      · have p1 : 1 ≤ b ∧ b ≤ ((k + 1 : Nat) : Int) := by push_cast; omega
        rw [if_pos h2, if_pos p1]; push_cast; omega
      · have p1 : ¬ (1 ≤ b ∧ b ≤ ((k + 1 : Nat) : Int)) := by push_cast; omega
        rw [if_neg h2, if_neg p1]; push_cast; omega
theorem sumU_all : ∀ bs : List Int, (∀ b ∈ bs, 0 ≤ b ∧ b ≤ 8) → sumU bs 8 + (bs.count 0 : Nat) = bs.length
  | [], _ => by simp [sumU_nil]
  | b :: bs, h => by
    have ih := sumU_all bs (fun x hx => h x (List.mem_cons_of_mem _ hx))
    have hb := h b List.mem_cons_self
    rw [sumU_cons, List.count_cons, List.length_cons]
    by_cases e : b = 0
    · subst e; simp; omega
    · have p1 : 1 ≤ b ∧ b ≤ ((8 : Nat) : Int) := by push_cast; omega
      have q1 : ¬ (b == (0 : Int)) = true := by simpa using e
      rw [if_pos p1, if_neg q1]; push_cast; omega
theorem cnt0_take (bs : List Int) (k : Nat) (hk : k < bs.length) : ((bs.take (k + 1)).count 0 : Nat) = (bs.take k).count 0 + (if bth bs k = 0 then 1 else 0) := by
  rw [take_blk bs k hk, List.count_append, List.count_singleton]
  by_cases e : bth bs k = 0
  · simp [e]
  · simp [e]
theorem sumU_range (bs : List Int) : ∀ k, 0 ≤ sumU bs k ∧ sumU bs k ≤ k * bs.length
  | 0 => by simp [sumU]
  | k + 1 => by
    have h := sumU_range bs k
    have h1 := List.count_le_length (a := ((k : Int) + 1)) (l := bs)
    simp only [sumU]
    push_cast at *
    constructor
    · omega
    · have : ((k : Int) + 1) * bs.length = k * bs.length + bs.length := by rw [Int.add_mul, Int.one_mul]
      omega
theorem usesF_in {nm : ByteArray} {bs : List Int} (h : volB ⟨nm, bs⟩ = true) (k : Nat) (hk : k < 8) : usesF ⟨nm, bs⟩ ((k : Int) + 1) = (bs.count ((k : Int) + 1) : Nat) := by
  unfold usesF
  rw [h, if_pos (by simp; omega)]
  rfl
theorem usesF_zero (x : Vo) : usesF x 0 = 0 := by
  unfold usesF
  rw [if_neg (by simp)]
theorem usesF_pos (x : Vo) (p : Int) : 0 ≤ usesF x p ∧ usesF x p ≤ x.blocks.length := by
  unfold usesF
  split
  · exact usesV_range x p
  · omega

set_option maxRecDepth 100000 in
set_option maxHeartbeats 12800000 in
theorem walk (w : World) (a0 : Option Addr) (len0 cap0 : Nat) (z0 : List Int) (w0 : IsRow .u8 w a0 len0 cap0 z0) :
    Calls Try.prog 3 #[.slice a0 len0 cap0] w fun e w' => e = .returned (.bool true) ∧ Below w.heap.size w w' := by
  obtain ⟨hr8, hlc, hc⟩ := row8 w0
  clear w0
  by_cases hbig : (1048576 : Int) < len0
  · go_enter Try.func3, Try.ntmps3
    go_wp2
    go_ret
    exact ⟨rfl, Below.refl _ _⟩
  have hd := drawVolUses_any a0 len0 cap0 w hlc hc hr8
  clear hr8
  go_enter Try.func3, Try.ntmps3
  go_wp2_with fail
  refine hd.mono ?_
  rintro e w2 ⟨nm, g, off, n, c, bs, p, rfl, hnm, hg1, hx, hl, hn6, hp0, hp1, hb2⟩
  clear hd
  have HSZ := Lib.hid (show nm.size ≤ maxLen by unfold maxLen; omega)
  have HL := Lib.hid hl
  have HX2 := Lib.hid (boxed_vol w2 nm (some ⟨g, off, none⟩) n c bs 25 (.inr ⟨g, off, rfl, hx⟩))
  have HB2 := Lib.hid hb2
  have HXX := Lib.hid hx
  have HG := Lib.hid hg1
  obtain ⟨U, hU⟩ : ∃ U, usesF ⟨nm, bs⟩ p = U := ⟨_, rfl⟩
  have hU0 : 0 ≤ U ∧ U ≤ n := by have := usesF_pos ⟨nm, bs⟩ p; rw [hU] at this; have h2 := HL.out; simp only at this; omega
  clear hg1 hx hl hb2
  have H1 := Lib.hid (fun (W : World) (q : Int) (h : BoxVol w2 nm (some ⟨g, off, none⟩) n c bs W) => volUses_any nm (some ⟨g, off, none⟩) n c bs q W HSZ.out h.ints HL.out (by omega))
  have H2 := Lib.hid (fun (W : World) (q : Int) (h : BoxVol w2 nm (some ⟨g, off, none⟩) n c bs W) => volUsesS_any nm (some ⟨g, off, none⟩) n c bs q W HSZ.out h.ints HL.out (by omega))
  have c0 := HX2.out.c0
  have c1 := HX2.out.c1
  go_wp2_with fail
  refine (H1.out _ _ HX2.out).mono ?_
  rw [hU]
  rintro e w3 ⟨rfl, hb3⟩
  have hX3 := HX2.out.next hb3
  clear hb3 c0 c1
  have c0 := hX3.c0
  have c1 := hX3.c1
  go_wp2_with fail
  refine (H2.out _ _ hX3).mono ?_
  rw [hU]
  rintro e w4 ⟨rfl, hb4⟩
  have hX4 := hX3.next hb4
  clear hb4 hX3 c0 c1
  have H3 := Lib.hid (volOkS_any nm (some ⟨g, off, none⟩) n c bs w4 HSZ.out hX4.ints HL.out (by omega))
  have c0 := hX4.c0
  have c1 := hX4.c1
  cases hvb : volB ⟨nm, bs⟩
  · rw [hvb] at H3
    clear hvb
    go_wp2_with fail
    refine H3.out.mono ?_
    rintro e w5 ⟨rfl, hb5⟩
    have hX5 := hX4.next hb5
    clear hb5 hX4 c0 c1
    have c0 := hX5.c0
    have c1 := hX5.c1
    go_wp2_with fail
    refine (H2.out _ _ hX5).mono ?_
    rw [hU]
    rintro e w6 ⟨rfl, hb6⟩
    have hB := HB2.out.trans ((hX5.next hb6).bel.mono HB2.out.size)
    clear hb6 hX5 c0 c1
    go_wp2_with fail
    go_ret
    exact ⟨rfl, hB⟩
  · rw [hvb] at H3
    have HV := Lib.hid hvb
    obtain ⟨ha, _, hn1, _⟩ := (volB_iff _).1 hvb
    have HALL := Lib.hid (sumU_all bs ha)
    have HRG := Lib.hid (sumU_range bs)
    clear hvb hn1 ha
    go_wp2_with fail
    refine H3.out.mono ?_
    rintro e w5 ⟨rfl, hb5⟩
    have hX5 := hX4.next hb5
    clear hb5 hX4 c0 c1
    have HX5 := Lib.hid hX5
    clear hX5
    go_wp2_with fail
    go_loopw [6, 7] (fun s i wr => ∃ k : Nat, k ≤ 8 ∧ i = .int .i64 ((k : Int) + 1) ∧ s = .int .i64 (sumU bs k) ∧ BoxVol w2 nm (some ⟨g, off, none⟩) n c bs wr) (fun s i _ => 9 - (intOf i).toNat)
    case atStart => exact ⟨0, by omega, rfl, rfl, HX5.out⟩
    case round =>
      obtain ⟨k, hk, rfl, rfl, hX⟩ := hrel
      have hrg := HRG.out k
      have hll := HL.out
      have hkn : (k : Int) * bs.length ≤ 48 := by
        have h1 : k * bs.length ≤ 8 * 6 := Nat.mul_le_mul hk (by omega)
        have : ((k * bs.length : Nat) : Int) = (k : Int) * bs.length := by push_cast; rfl
        omega
      by_cases hlt : k < 8
      · have c0 := hX.c0
        have c1 := hX.c1
        have hcu : usesF ⟨nm, bs⟩ ((k : Int) + 1) = (bs.count ((k : Int) + 1) : Nat) := usesF_in HV.out k hlt
        have hcl := List.count_le_length (a := ((k : Int) + 1)) (l := bs)
        have HCU := Lib.hid hcu
        have HXK := Lib.hid hX
        have s0 := hrg.1
        have s1 : sumU bs k ≤ 48 := by omega
        clear hcu hX hrg hkn
        go_wp2_with fail
        refine (H1.out _ _ HXK.out).mono ?_
        rw [HCU.out]
        rintro e w6 ⟨rfl, hb6⟩
        have hX6 := HXK.out.next hb6
        clear hb6 c0 c1
        have e1 : IntKind.i64.wrap (sumU bs k + ((bs.count ((k : Int) + 1) : Nat) : Int)) = sumU bs k + ((bs.count ((k : Int) + 1) : Nat) : Int) := IntWalk.i64_in _ (by omega)
        go_wp2_with fail
        go_roundw
        case rel => exact ⟨k + 1, by omega, by go_num, by simp only [sumU], hX6⟩
        case measure => simp [intOf]; omega
      · obtain rfl : k = 8 := by omega
        have HXK := Lib.hid hX
        have HALL2 := HALL.out
        clear hX hkn hrg
        go_wp2_with fail
        go_loopw [6, 8] (fun s i wr => ∃ k : Nat, k ≤ n ∧ i = .int .i64 (k : Int) ∧ s = .int .i64 (sumU bs 8 + ((bs.take k).count 0 : Nat)) ∧ BoxVol w2 nm (some ⟨g, off, none⟩) n c bs wr) (fun s i _ => n - (intOf i).toNat)
        case atStart => exact ⟨0, by omega, rfl, by simp, HXK.out⟩
        case round =>
          obtain ⟨k, hk, rfl, rfl, hX⟩ := hrel
          have hct : (bs.take k).count 0 ≤ k := Nat.le_trans List.count_le_length (by simp; omega)
          have s0 : (0 : Int) ≤ sumU bs 8 + ((bs.take k).count 0 : Nat) := by have := (HRG.out 8).1; omega
          have s1 : sumU bs 8 + ((bs.take k).count 0 : Nat) ≤ 60 := by have := (HRG.out 8).2; have := HL.out; push_cast at *; omega
          by_cases hlt : k < n
          · have c0 := hX.c0
            have c1 := hX.c1
            have k1 : (k : Int) < (n : Int) := by omega
            have k0 : (0 : Int) ≤ (k : Int) := by omega
            have hi : wr.cell? ⟨g, off + k, none⟩ = some (.int .i64 (bth bs k)) := by
              rcases hX.ints with e | ⟨g', o', e, h⟩
              · have := HL.out; rw [e] at this; simp at this; omega
              · injection e with e; injection e with e1 e2; subst e1 e2; exact h k (by have := HL.out; omega)
            have HXK := Lib.hid hX
            have HC := Lib.hid (cnt0_take bs k (by have := HL.out; omega))
            clear hX
            by_cases hb0 : bth bs k = 0
            · rw [hb0] at hi
              have HB0 := Lib.hid hb0
              clear hb0
              go_wp2_with fail
              go_roundw
              case rel => exact ⟨k + 1, by omega, by go_num, by rw [HC.out, if_pos HB0.out]; push_cast; go_num, HXK.out⟩
              case measure => simp [intOf]; omega
            · have HB0 := Lib.hid hb0
              go_wp2_with fail
              go_roundw
              case rel => exact ⟨k + 1, by omega, by go_num, by rw [HC.out, if_neg HB0.out]; rfl, HXK.out⟩
              case measure => simp [intOf]; omega
          · obtain rfl : k = n := by omega
            have hst : sumU bs 8 + ((bs.take k).count 0 : Nat) = (k : Int) := by
              have := HALL2
              rw [List.take_of_length_le (by have := HL.out; omega)]
              rw [HL.out] at this
              exact this
            rw [hst]
            have c0 := hX.c0
            have c1 := hX.c1
            have HXK := Lib.hid hX
            have hU1 := hU0.1
            clear hX hct s0 s1 hst HALL2
            go_wp2_with fail
            refine (H1.out _ _ HXK.out).mono ?_
            rw [usesF_zero]
            rintro e w7 ⟨rfl, hb7⟩
            have hB := HB2.out.trans ((HXK.out.next hb7).bel.mono HB2.out.size)
            clear hb7 c0 c1
            go_wp2_with fail
            go_ret
            exact ⟨rfl, hB⟩

set_option maxRecDepth 100000 in
theorem lifted (os : Os) (started : os.Started) (H : Type) (enc : TypeId × Value → H) :
    ReturnsInHanded {} Try.checked os 3 .any (Rows.fnVolUsesSpec.pre6 enc Try.prog Try.f3 Rows.fnVolUsesRow.domain false) (Rows.fnVolUsesSpec.post enc Try.prog Try.f3 false true false false) := by
  refine returnsInHanded_of_change (C := Try.checked) own started (by kernel_rfl) Try.func3
    (ChangeSpec.witness6 (enc := enc) (C := Try.checked) false ⟨#[], #[.slice none 0 0], []⟩ 8 (by kernel_rfl) (by kernel_rfl) (by kernel_rfl) (by kernel_rfl)) ?_
  intro W base args ds gs before hval0 hW hcnd _
  have hval : ∀ (j : Nat) t v, Try.f3.params[j]? = some t → args[j]? = some v → Value.okWide Try.prog W .any base t v := hval0
  have hW' := hW
  obtain ⟨p, q, hA0, hV, rfl, hfz, hnd⟩ := hW
  have hA : DataW.TrodAll enc Try.prog W 0 (fun _ => true) true Try.f3.params.toList args.toList ds p := hA0
  rw [Try.params3] at hA hval
  obtain ⟨v0, vs0, d0, ds0, p0, q0, hargs, rfl, rfl, h0, r0⟩ := trodAll_cons hA
  obtain ⟨rfl, rfl, rfl⟩ := trodAll_nil r0
  obtain rfl : args = #[v0] := by cases args; simp_all
  obtain ⟨rfl, rfl⟩ := trodVars_none hV
  obtain ⟨a0, len0, cap0, rfl⟩ := okWide_slice Try.underlying22 (hval 0 22 v0 rfl rfl)
  have k0 := h0
  have lt0 : ∀ x ∈ p0, x.block < W.heap.size := by obtain ⟨m, hm⟩ := k0; exact DataW.trod_lt m _ _ _ hm
  obtain ⟨z0, w0⟩ : ∃ zs, IsRow .u8 W a0 len0 cap0 zs := by
    obtain ⟨fuel, hf⟩ := h0
    rcases open_ints Try.underlying22 Try.underlying5 (by kernel_rfl) hf with ⟨hcs, _⟩ | ⟨x, l, c, zs, hcs, _, hl, hm, hz, _, hcell, hwz⟩
    · simp [Value.cells] at hcs
      obtain ⟨rfl, rfl, rfl⟩ := hcs
      exact ⟨[], .inl ⟨rfl, rfl, rfl, rfl⟩⟩
    · simp [Value.cells] at hcs
      obtain ⟨rfl, rfl, rfl⟩ := hcs
      exact ⟨zs, .inr ⟨_, rfl, hl, hm, by simpa using hz, hcell, hwz⟩⟩
  clear hA0 hval0
  refine (walk W a0 len0 cap0 z0 w0).mono fun e W' ⟨he, bel⟩ => ?_
  subst he
  exact ⟨_, rfl, _, _, _, [], _, [], hW', trodAll_mk1 (shut_bool Try.underlying4 _), (trodAll_cons_mk (Below.trod laidOut (by kernel_rfl) (of_decide_eq_true (by kernel_rfl)) k0 bel lt0) trodAll_mk0), rfl, bel.frame _, fun h => by cases h⟩

theorem closed : joinedFacts Try.prog 3 Try.f3 Rows.fnVolUsesSpec Rows.fnVolUsesRow = true := by
  unfold joinedFacts
  rewrite [head_may, head_lifts, head_make]
  kernel_rfl
theorem over : Rows.fnVolUsesRow.holds Try.pinned (OpenSpec.ofChange Rows.fnVolUsesSpec) :=
  OpenClaim.holds_of_wide 3 Try.f3 rfl rfl rfl rfl rfl rfl rfl ⟨rfl, rfl, rfl, rfl, rfl⟩ rfl rfl rfl rfl rfl (by kernel_rfl) Try.func3 closed
    (of_decide_eq_true (by kernel_rfl)) (by unfold Func.isWrapper; first | (rw [if_pos (by decide +kernel)]; kernel_rfl) | (rw [if_neg (by decide +kernel)]; exact ⟨rfl, rfl⟩))
    (fun os started H enc _ => lifted os started H enc)

theorem proved : Rows.FnVolUsesSaid := over
#print axioms proved
end Go.Proofs.Ytgogokahpmljbaa.fnVolUses
