/- The model's OpText: a change's text. -/
import Derived.Test.YtplicodloanljaaDoorOp
namespace Go.Proofs.YtplicodloanljaaDoor
open Go.RowKit
set_option linter.unusedVariables false
set_option maxRecDepth 100000

/-- A number of one figure. -/
def decB (n : Int) : ByteArray := ⟨#[UInt8.ofNat (48 + n).toNat]⟩

set_option maxHeartbeats 800000 in
theorem l6Dec_one (n : Int) (h0 : 0 ≤ n) (h9 : n ≤ 9) (w : World) :
    Calls Tryd.prog 25 #[.int .i64 n] w fun e w' => e = .returned (.string (decB n)) ∧ Below w.heap.size w w' := by
  have hcv := conv_one w (48 + n) (by omega) (by omega)
  have t1 : ¬ n < -9223372036854775807 := by omega
  have t2 : ¬ n < 0 := by omega
  have t3 : n < 10 := by omega
  go_enter Tryd.func25, Tryd.ntmps25
  go_wp2_with fail
  go_ret
  exact ⟨rfl, (Below.refl _ _).alloc (Nat.le_refl _) _⟩

/-- A change in the call's own box. -/
structure OpBox (w : World) (o : Ov) (W : World) : Prop where
  lt : w.heap.size < W.heap.size
  op : ∀ i, i < 5 → W.cell? ⟨w.heap.size, i, none⟩ = some (ovc o i)
  below : Below w.heap.size w W

theorem OpBox.new (w : World) (o : Ov) : OpBox w o (w.alloc (.cells #[.int .i64 o.kind, .string o.name, .string o.dest, .int .i64 o.num, .string o.text] 24)) :=
  ⟨by simp, op_cells o w, (Below.refl w.heap.size w).alloc (Nat.le_refl _) _⟩

theorem OpBox.later {w W W' : World} {o : Ov} (h : OpBox w o W) (hb : Below W.heap.size W W') : OpBox w o W' :=
  ⟨Nat.lt_of_lt_of_le h.lt hb.size, fun i hi => (hb.cell (p := ⟨w.heap.size, i, none⟩) h.lt).trans (h.op i hi), h.below.trans (hb.mono (Nat.le_of_lt h.lt))⟩

theorem OpBox.drew {w W : World} {o : Ov} (h : OpBox w o W) : OpBox w o W.drew := ⟨h.lt, h.op, Below.drew h.below⟩

theorem OpBox.five {w W : World} {o : Ov} (h : OpBox w o W) : w.heap.size < W.heap.size ∧ W.cell? ⟨w.heap.size, 0, none⟩ = some (.int .i64 o.kind) ∧ W.cell? ⟨w.heap.size, 1, none⟩ = some (.string o.name) ∧ W.cell? ⟨w.heap.size, 2, none⟩ = some (.string o.dest) ∧ W.cell? ⟨w.heap.size, 3, none⟩ = some (.int .i64 o.num) ∧ W.cell? ⟨w.heap.size, 4, none⟩ = some (.string o.text) :=
  ⟨h.lt, h.op 0 (by omega), h.op 1 (by omega), h.op 2 (by omega), h.op 3 (by omega), h.op 4 (by omega)⟩

def opT (o : Ov) : ByteArray :=
  if opB o = true then
    if o.kind = 1 then ⟨#[109, 97, 107, 101, 32]⟩ ++ o.name ++ ⟨#[32]⟩ ++ decB o.num
    else if o.kind = 2 then (if emp o.text = true then ⟨#[102, 114, 101, 101, 32]⟩ ++ o.name ++ ⟨#[32]⟩ ++ decB o.num else ⟨#[119, 114, 105, 116, 101, 32]⟩ ++ o.name ++ ⟨#[32]⟩ ++ decB o.num ++ ⟨#[32]⟩ ++ o.text)
    else if o.kind = 3 then ⟨#[99, 108, 111, 110, 101, 32]⟩ ++ o.name ++ ⟨#[32]⟩ ++ o.dest else ⟨#[103, 111, 110, 101, 32]⟩ ++ o.name
  else ⟨#[]⟩

theorem opB_parts {o : Ov} (h : opB o = true) : o.name.size = 1 ∧ ((o.kind = 1 ∧ 1 ≤ o.num ∧ o.num ≤ 6) ∨ (o.kind = 2 ∧ 0 ≤ o.num ∧ o.num ≤ 5 ∧ o.text.size ≤ 4) ∨ (o.kind = 3 ∧ o.dest.size = 1) ∨ o.kind = 4) := by
  unfold opB at h
  simp only [Bool.and_eq_true] at h
  refine ⟨nameB_size _ h.1, ?_⟩
  have h2 := h.2
  split at h2
  · simp at h2; exact .inl ⟨by assumption, by omega, by omega⟩
  split at h2
  · simp at h2; refine .inr (.inl ⟨by assumption, by omega, by omega, ?_⟩)
    have := tokB_len h2.2
    simpa using this
  split at h2
  · simp at h2; exact .inr (.inr (.inl ⟨by assumption, nameB_size _ h2.1.1⟩))
  split at h2
  · exact .inr (.inr (.inr (by assumption)))
  · simp at h2

set_option maxHeartbeats 1600000 in
theorem opTextS_any (o : Ov) (w : World) (hf : OpFits o) :
    Calls Tryd.prog 11 #[o.val] w fun e w' => e = .returned (.string (opT o)) ∧ Below w.heap.size w w' := by
  have HX := Lib.hid (OpBox.new w o)
  have HK := Lib.hid (opOkS_any o (w.alloc (.cells #[.int .i64 o.kind, .string o.name, .string o.dest, .int .i64 o.num, .string o.text] 24)) hf)
  obtain ⟨lt, c0, c1, c2, c3, c4⟩ := HX.out.five
  have m1 := hf.name
  have m2 := hf.dest
  have m3 := hf.text
  unfold Ov.val
  go_enter Tryd.func11, Tryd.ntmps11
  go_wp2_with fail
  refine HK.out.mono ?_
  rintro e w2 ⟨rfl, hb2⟩
  have HX2 := Lib.hid (HX.out.later hb2)
  clear hb2 c0 c1 c2 c3 c4 lt HK
  obtain ⟨kind, name, dest, num, text⟩ := o
  obtain ⟨lt, d0, d1, d2, d3, d4⟩ := HX2.out.five
  simp only at d0 d1 d2 d3 d4 m1 m2 m3
  cases hB : opB ⟨kind, name, dest, num, text⟩
  · have HO : Hid (opT ⟨kind, name, dest, num, text⟩ = ⟨#[]⟩) := Lib.hid (by simp [opT, hB])
    clear hB
    go_wp2_with fail
    go_ret
    exact ⟨by rw [HO.out]; rfl, HX2.out.below⟩
  · obtain ⟨hn, hp⟩ := opB_parts hB
    simp only at hn hp
    rcases hp with ⟨rfl, hp⟩ | ⟨rfl, hp⟩ | ⟨rfl, hp⟩ | rfl
    · have HO : Hid (opT ⟨1, name, dest, num, text⟩ = ⟨#[109, 97, 107, 101, 32]⟩ ++ name ++ ⟨#[32]⟩ ++ decB num) := Lib.hid (by simp [opT, hB])
      have HD := Lib.hid (fun W => l6Dec_one num (by omega) (by omega) W)
      have hds : (decB num).size = 1 := rfl
      clear hB
      go_wp2_with fail
      go_region_with (go_at_call 25; refine (HD.out _).mono ?_; rintro e w3 ⟨rfl, hb3⟩; have HX3 := Lib.hid (HX2.out.drew.later hb3); clear hb3; obtain ⟨lt, e0, e1, e2, e3, e4⟩ := HX3.out.five)
      all_goals (
        go_wp2_with fail
        go_ret
        exact ⟨by rw [HO.out]; rfl, HX3.out.below⟩)
    · obtain ⟨p1, p2, p3⟩ := hp
      have hq : opT ⟨2, name, dest, num, text⟩ = (if emp text = true then ⟨#[102, 114, 101, 101, 32]⟩ ++ name ++ ⟨#[32]⟩ ++ decB num else ⟨#[119, 114, 105, 116, 101, 32]⟩ ++ name ++ ⟨#[32]⟩ ++ decB num ++ ⟨#[32]⟩ ++ text) := by simp [opT, hB]
      have HD := Lib.hid (fun W => l6Dec_one num (by omega) (by omega) W)
      have hds : (decB num).size = 1 := rfl
      cases he : text.toList.isEmpty
      · have HO := Lib.hid (hq.trans (if_neg (by unfold emp; rw [he]; exact Bool.false_ne_true)))
        clear hB hq
        go_wp2_with fail
        go_region_with (go_at_call 25; refine (HD.out _).mono ?_; rintro e w3 ⟨rfl, hb3⟩; have HX3 := Lib.hid (HX2.out.drew.later hb3); clear hb3; obtain ⟨lt, e0, e1, e2, e3, e4⟩ := HX3.out.five)
        all_goals (
          go_wp2_with fail
          go_ret
          exact ⟨by rw [HO.out]; rfl, HX3.out.below⟩)
      · have HO := Lib.hid (hq.trans (if_pos (show emp text = true from he)))
        clear hB hq
        go_wp2_with fail
        go_region_with (go_at_call 25; refine (HD.out _).mono ?_; rintro e w3 ⟨rfl, hb3⟩; have HX3 := Lib.hid (HX2.out.drew.later hb3); clear hb3; obtain ⟨lt, e0, e1, e2, e3, e4⟩ := HX3.out.five)
        all_goals (
          go_wp2_with fail
          go_ret
          exact ⟨by rw [HO.out]; rfl, HX3.out.below⟩)
    · have HO : Hid (opT ⟨3, name, dest, num, text⟩ = ⟨#[99, 108, 111, 110, 101, 32]⟩ ++ name ++ ⟨#[32]⟩ ++ dest) := Lib.hid (by simp [opT, hB])
      clear hB
      go_wp2_with fail
      go_ret
      exact ⟨by rw [HO.out]; rfl, HX2.out.below⟩
    · have HO : Hid (opT ⟨4, name, dest, num, text⟩ = ⟨#[103, 111, 110, 101, 32]⟩ ++ name) := Lib.hid (by simp [opT, hB])
      clear hB
      go_wp2_with fail
      go_ret
      exact ⟨by rw [HO.out]; rfl, HX2.out.below⟩

end Go.Proofs.YtplicodloanljaaDoor
