/- The model's OpOk: a change that may be asked for. -/
import Derived.Test.YtgogokahpmljbaaPoolGone
import Derived.Test.YtgogokahpmljbaaPoolOv
namespace Go.Proofs.Ytgogokahpmljbaa
open Go.RowKit
set_option linter.unusedVariables false
set_option maxRecDepth 100000

/-- OpOk, behind the name. -/
def opK (o : Ov) : Bool :=
  if o.kind = 1 then o.dest.toList.isEmpty && (decide (1 ≤ o.num) && decide (o.num ≤ 6)) && o.text.toList.isEmpty
  else if o.kind = 2 then o.dest.toList.isEmpty && (decide (0 ≤ o.num) && decide (o.num ≤ 5)) && tokB o.text.data.toList
  else if o.kind = 3 then nameB o.dest.data.toList && decide (o.num = 0) && o.text.toList.isEmpty
  else if o.kind = 4 then o.dest.toList.isEmpty && decide (o.num = 0) && o.text.toList.isEmpty
  else false

/-- OpOk. -/
def opB (o : Ov) : Bool := nameB o.name.data.toList && opK o

set_option maxHeartbeats 3200000 in
theorem opOk_bad (kind : Int) (nm dst : ByteArray) (num : Int) (t : ByteArray) (w : World) (h1 : nm.size ≤ maxLen) (h2 : dst.size ≤ maxLen) (h3 : t.size ≤ maxLen) (ha : nameB nm.data.toList = false) :
    Calls Try.prog 38 #[(Ov.mk kind nm dst num t).val] w fun e w' => e = .returned (.bool (opB ⟨kind, nm, dst, num, t⟩)) ∧ Below w.heap.size w w' := by
  have n0 := new_cells w #[.int .i64 kind, .string nm, .string dst, .int .i64 num, .string t] 75
  have c0 := n0.1 0
  have c1 := n0.1 1
  have c2 := n0.1 2
  have c3 := n0.1 3
  have c4 := n0.1 4
  have HB : Hid (Below w.heap.size w (w.alloc (.cells #[.int .i64 kind, .string nm, .string dst, .int .i64 num, .string t] 75))) := Lib.hid ((Below.refl _ _).alloc (Nat.le_refl _) _)
  have HNA := Lib.hid (fun W => l3Name_any nm W h1)
  have HNT := Lib.hid (fun W => l3Name_any dst W h2)
  have HTK := Lib.hid (fun W => textOkS_any t W h3)
  have HI1 := Lib.hid (fun W => l6In_any num 1 6 W)
  have HI2 := Lib.hid (fun W => l6In_any num 0 5 W)
  have HM : Hid (opB ⟨kind, nm, dst, num, t⟩ = (nameB nm.data.toList && opK ⟨kind, nm, dst, num, t⟩)) := Lib.hid rfl
  have HK : Hid (opK ⟨kind, nm, dst, num, t⟩ = if (kind : Int) = 1 then dst.toList.isEmpty && (decide (1 ≤ num) && decide (num ≤ 6)) && t.toList.isEmpty
    else if (kind : Int) = 2 then dst.toList.isEmpty && (decide (0 ≤ num) && decide (num ≤ 5)) && tokB t.data.toList
    else if (kind : Int) = 3 then nameB dst.data.toList && (num == 0) && t.toList.isEmpty
    else if (kind : Int) = 4 then dst.toList.isEmpty && (num == 0) && t.toList.isEmpty
    else false) := Lib.hid rfl
  clear n0
  obtain ⟨M, hM⟩ : ∃ M, opB ⟨kind, nm, dst, num, t⟩ = M := ⟨_, rfl⟩
  rw [hM] at HM ⊢
  clear hM
  obtain ⟨K, hK⟩ : ∃ K, opK ⟨kind, nm, dst, num, t⟩ = K := ⟨_, rfl⟩
  rw [hK] at HM HK
  clear hK
  unfold Ov.val
  rw [ha] at HNA HM
  clear ha
  obtain ⟨b, hb⟩ : ∃ b, nameB dst.data.toList = b := ⟨_, rfl⟩
  rw [hb] at HNT HK
  clear hb
  obtain ⟨d, hd⟩ : ∃ d, tokB t.data.toList = d := ⟨_, rfl⟩
  rw [hd] at HTK HK
  clear hd
  obtain ⟨r1, hr1⟩ : ∃ r, (decide (1 ≤ num) && decide (num ≤ 6)) = r := ⟨_, rfl⟩
  rw [hr1] at HI1 HK
  clear hr1
  obtain ⟨r2, hr2⟩ : ∃ r, (decide (0 ≤ num) && decide (num ≤ 5)) = r := ⟨_, rfl⟩
  rw [hr2] at HI2 HK
  clear hr2
  go_enter Try.func38, Try.ntmps38
  go_wp2_with (go_at_call 22; refine (HNA.out _).mono ?_; rintro e w' ⟨rfl, rfl⟩)
  rw [HM.out]
  exact bodyPost_ret (v := .bool false) (by simp [results, Try.f38, go_sem]) rfl ⟨rfl, HB.out⟩

set_option maxHeartbeats 3200000 in
theorem opOk_make (nm dst : ByteArray) (num : Int) (t : ByteArray) (w : World) (h1 : nm.size ≤ maxLen) (h2 : dst.size ≤ maxLen) (h3 : t.size ≤ maxLen) (ha : nameB nm.data.toList = true) :
    Calls Try.prog 38 #[(Ov.mk 1 nm dst num t).val] w fun e w' => e = .returned (.bool (opB ⟨1, nm, dst, num, t⟩)) ∧ Below w.heap.size w w' := by
  have n0 := new_cells w #[.int .i64 1, .string nm, .string dst, .int .i64 num, .string t] 75
  have c0 := n0.1 0
  have c1 := n0.1 1
  have c2 := n0.1 2
  have c3 := n0.1 3
  have c4 := n0.1 4
  have HB : Hid (Below w.heap.size w (w.alloc (.cells #[.int .i64 1, .string nm, .string dst, .int .i64 num, .string t] 75))) := Lib.hid ((Below.refl _ _).alloc (Nat.le_refl _) _)
  have HNA := Lib.hid (fun W => l3Name_any nm W h1)
  have HNT := Lib.hid (fun W => l3Name_any dst W h2)
  have HTK := Lib.hid (fun W => textOkS_any t W h3)
  have HI1 := Lib.hid (fun W => l6In_any num 1 6 W)
  have HI2 := Lib.hid (fun W => l6In_any num 0 5 W)
  have HM : Hid (opB ⟨1, nm, dst, num, t⟩ = (nameB nm.data.toList && opK ⟨1, nm, dst, num, t⟩)) := Lib.hid rfl
  have HK : Hid (opK ⟨1, nm, dst, num, t⟩ = if (1 : Int) = 1 then dst.toList.isEmpty && (decide (1 ≤ num) && decide (num ≤ 6)) && t.toList.isEmpty
    else if (1 : Int) = 2 then dst.toList.isEmpty && (decide (0 ≤ num) && decide (num ≤ 5)) && tokB t.data.toList
    else if (1 : Int) = 3 then nameB dst.data.toList && (num == 0) && t.toList.isEmpty
    else if (1 : Int) = 4 then dst.toList.isEmpty && (num == 0) && t.toList.isEmpty
    else false) := Lib.hid rfl
  clear n0
  obtain ⟨M, hM⟩ : ∃ M, opB ⟨1, nm, dst, num, t⟩ = M := ⟨_, rfl⟩
  rw [hM] at HM ⊢
  clear hM
  obtain ⟨K, hK⟩ : ∃ K, opK ⟨1, nm, dst, num, t⟩ = K := ⟨_, rfl⟩
  rw [hK] at HM HK
  clear hK
  unfold Ov.val
  rw [ha] at HNA HM
  clear ha
  obtain ⟨b, hb⟩ : ∃ b, nameB dst.data.toList = b := ⟨_, rfl⟩
  rw [hb] at HNT HK
  clear hb
  obtain ⟨d, hd⟩ : ∃ d, tokB t.data.toList = d := ⟨_, rfl⟩
  rw [hd] at HTK HK
  clear hd
  obtain ⟨r1, hr1⟩ : ∃ r, (decide (1 ≤ num) && decide (num ≤ 6)) = r := ⟨_, rfl⟩
  rw [hr1] at HI1 HK
  clear hr1
  obtain ⟨r2, hr2⟩ : ∃ r, (decide (0 ≤ num) && decide (num ≤ 5)) = r := ⟨_, rfl⟩
  rw [hr2] at HI2 HK
  clear hr2
  have HN : Hid (M = (dst.toList.isEmpty && r1 && t.toList.isEmpty)) := Lib.hid (by rw [HM.out, HK.out]; simp)
  clear HM HK
  cases q1 : dst.toList.isEmpty
  · rw [q1] at HN
    go_enter Try.func38, Try.ntmps38
    go_wp2_with (first | (go_at_call 22; refine (HNA.out _).mono ?_; rintro e w' ⟨rfl, rfl⟩) | (go_at_call 20; refine (HI1.out _).mono ?_; rintro e w' ⟨rfl, rfl⟩))
    rw [HN.out]
    exact bodyPost_ret (v := .bool _) (by simp [results, Try.f38, go_sem]) rfl ⟨rfl, HB.out⟩
  · rw [q1] at HN
    cases r1
    · go_enter Try.func38, Try.ntmps38
      go_wp2_with (first | (go_at_call 22; refine (HNA.out _).mono ?_; rintro e w' ⟨rfl, rfl⟩) | (go_at_call 20; refine (HI1.out _).mono ?_; rintro e w' ⟨rfl, rfl⟩))
      rw [HN.out]
      exact bodyPost_ret (v := .bool _) (by simp [results, Try.f38, go_sem]) rfl ⟨rfl, HB.out⟩
    · skip
      cases q2 : t.toList.isEmpty
      · rw [q2] at HN
        go_enter Try.func38, Try.ntmps38
        go_wp2_with (first | (go_at_call 22; refine (HNA.out _).mono ?_; rintro e w' ⟨rfl, rfl⟩) | (go_at_call 20; refine (HI1.out _).mono ?_; rintro e w' ⟨rfl, rfl⟩))
        rw [HN.out]
        exact bodyPost_ret (v := .bool _) (by simp [results, Try.f38, go_sem]) rfl ⟨rfl, HB.out⟩
      · rw [q2] at HN
        go_enter Try.func38, Try.ntmps38
        go_wp2_with (first | (go_at_call 22; refine (HNA.out _).mono ?_; rintro e w' ⟨rfl, rfl⟩) | (go_at_call 20; refine (HI1.out _).mono ?_; rintro e w' ⟨rfl, rfl⟩))
        rw [HN.out]
        exact bodyPost_ret (v := .bool _) (by simp [results, Try.f38, go_sem]) rfl ⟨rfl, HB.out⟩

set_option maxHeartbeats 3200000 in
theorem opOk_write (nm dst : ByteArray) (num : Int) (t : ByteArray) (w : World) (h1 : nm.size ≤ maxLen) (h2 : dst.size ≤ maxLen) (h3 : t.size ≤ maxLen) (ha : nameB nm.data.toList = true) :
    Calls Try.prog 38 #[(Ov.mk 2 nm dst num t).val] w fun e w' => e = .returned (.bool (opB ⟨2, nm, dst, num, t⟩)) ∧ Below w.heap.size w w' := by
  have n0 := new_cells w #[.int .i64 2, .string nm, .string dst, .int .i64 num, .string t] 75
  have c0 := n0.1 0
  have c1 := n0.1 1
  have c2 := n0.1 2
  have c3 := n0.1 3
  have c4 := n0.1 4
  have HB : Hid (Below w.heap.size w (w.alloc (.cells #[.int .i64 2, .string nm, .string dst, .int .i64 num, .string t] 75))) := Lib.hid ((Below.refl _ _).alloc (Nat.le_refl _) _)
  have HNA := Lib.hid (fun W => l3Name_any nm W h1)
  have HNT := Lib.hid (fun W => l3Name_any dst W h2)
  have HTK := Lib.hid (fun W => textOkS_any t W h3)
  have HI1 := Lib.hid (fun W => l6In_any num 1 6 W)
  have HI2 := Lib.hid (fun W => l6In_any num 0 5 W)
  have HM : Hid (opB ⟨2, nm, dst, num, t⟩ = (nameB nm.data.toList && opK ⟨2, nm, dst, num, t⟩)) := Lib.hid rfl
  have HK : Hid (opK ⟨2, nm, dst, num, t⟩ = if (2 : Int) = 1 then dst.toList.isEmpty && (decide (1 ≤ num) && decide (num ≤ 6)) && t.toList.isEmpty
    else if (2 : Int) = 2 then dst.toList.isEmpty && (decide (0 ≤ num) && decide (num ≤ 5)) && tokB t.data.toList
    else if (2 : Int) = 3 then nameB dst.data.toList && (num == 0) && t.toList.isEmpty
    else if (2 : Int) = 4 then dst.toList.isEmpty && (num == 0) && t.toList.isEmpty
    else false) := Lib.hid rfl
  clear n0
  obtain ⟨M, hM⟩ : ∃ M, opB ⟨2, nm, dst, num, t⟩ = M := ⟨_, rfl⟩
  rw [hM] at HM ⊢
  clear hM
  obtain ⟨K, hK⟩ : ∃ K, opK ⟨2, nm, dst, num, t⟩ = K := ⟨_, rfl⟩
  rw [hK] at HM HK
  clear hK
  unfold Ov.val
  rw [ha] at HNA HM
  clear ha
  obtain ⟨b, hb⟩ : ∃ b, nameB dst.data.toList = b := ⟨_, rfl⟩
  rw [hb] at HNT HK
  clear hb
  obtain ⟨d, hd⟩ : ∃ d, tokB t.data.toList = d := ⟨_, rfl⟩
  rw [hd] at HTK HK
  clear hd
  obtain ⟨r1, hr1⟩ : ∃ r, (decide (1 ≤ num) && decide (num ≤ 6)) = r := ⟨_, rfl⟩
  rw [hr1] at HI1 HK
  clear hr1
  obtain ⟨r2, hr2⟩ : ∃ r, (decide (0 ≤ num) && decide (num ≤ 5)) = r := ⟨_, rfl⟩
  rw [hr2] at HI2 HK
  clear hr2
  have HN : Hid (M = (dst.toList.isEmpty && r2 && d)) := Lib.hid (by rw [HM.out, HK.out]; simp)
  clear HM HK
  cases q1 : dst.toList.isEmpty
  · rw [q1] at HN
    go_enter Try.func38, Try.ntmps38
    go_wp2_with (first | (go_at_call 22; refine (HNA.out _).mono ?_; rintro e w' ⟨rfl, rfl⟩) | (go_at_call 20; refine (HI2.out _).mono ?_; rintro e w' ⟨rfl, rfl⟩) | (go_at_call 32; refine (HTK.out _).mono ?_; rintro e w' ⟨rfl, rfl⟩))
    rw [HN.out]
    exact bodyPost_ret (v := .bool _) (by simp [results, Try.f38, go_sem]) rfl ⟨rfl, HB.out⟩
  · rw [q1] at HN
    cases r2
    · go_enter Try.func38, Try.ntmps38
      go_wp2_with (first | (go_at_call 22; refine (HNA.out _).mono ?_; rintro e w' ⟨rfl, rfl⟩) | (go_at_call 20; refine (HI2.out _).mono ?_; rintro e w' ⟨rfl, rfl⟩) | (go_at_call 32; refine (HTK.out _).mono ?_; rintro e w' ⟨rfl, rfl⟩))
      rw [HN.out]
      exact bodyPost_ret (v := .bool _) (by simp [results, Try.f38, go_sem]) rfl ⟨rfl, HB.out⟩
    · skip
      cases d
      · go_enter Try.func38, Try.ntmps38
        go_wp2_with (first | (go_at_call 22; refine (HNA.out _).mono ?_; rintro e w' ⟨rfl, rfl⟩) | (go_at_call 20; refine (HI2.out _).mono ?_; rintro e w' ⟨rfl, rfl⟩) | (go_at_call 32; refine (HTK.out _).mono ?_; rintro e w' ⟨rfl, rfl⟩))
        rw [HN.out]
        exact bodyPost_ret (v := .bool _) (by simp [results, Try.f38, go_sem]) rfl ⟨rfl, HB.out⟩
      · skip
        go_enter Try.func38, Try.ntmps38
        go_wp2_with (first | (go_at_call 22; refine (HNA.out _).mono ?_; rintro e w' ⟨rfl, rfl⟩) | (go_at_call 20; refine (HI2.out _).mono ?_; rintro e w' ⟨rfl, rfl⟩) | (go_at_call 32; refine (HTK.out _).mono ?_; rintro e w' ⟨rfl, rfl⟩))
        rw [HN.out]
        exact bodyPost_ret (v := .bool _) (by simp [results, Try.f38, go_sem]) rfl ⟨rfl, HB.out⟩

set_option maxHeartbeats 3200000 in
theorem opOk_clone (nm dst : ByteArray) (num : Int) (t : ByteArray) (w : World) (h1 : nm.size ≤ maxLen) (h2 : dst.size ≤ maxLen) (h3 : t.size ≤ maxLen) (ha : nameB nm.data.toList = true) :
    Calls Try.prog 38 #[(Ov.mk 3 nm dst num t).val] w fun e w' => e = .returned (.bool (opB ⟨3, nm, dst, num, t⟩)) ∧ Below w.heap.size w w' := by
  have n0 := new_cells w #[.int .i64 3, .string nm, .string dst, .int .i64 num, .string t] 75
  have c0 := n0.1 0
  have c1 := n0.1 1
  have c2 := n0.1 2
  have c3 := n0.1 3
  have c4 := n0.1 4
  have HB : Hid (Below w.heap.size w (w.alloc (.cells #[.int .i64 3, .string nm, .string dst, .int .i64 num, .string t] 75))) := Lib.hid ((Below.refl _ _).alloc (Nat.le_refl _) _)
  have HL3 := Lib.hid (fun (s : ByteArray) W (h : s.size ≤ maxLen) => l3Name_any s W h)
  have HAE := Lib.hid ha
  have HTK := Lib.hid (fun W => textOkS_any t W h3)
  have HI1 := Lib.hid (fun W => l6In_any num 1 6 W)
  have HI2 := Lib.hid (fun W => l6In_any num 0 5 W)
  have HM : Hid (opB ⟨3, nm, dst, num, t⟩ = (nameB nm.data.toList && opK ⟨3, nm, dst, num, t⟩)) := Lib.hid rfl
  have HK : Hid (opK ⟨3, nm, dst, num, t⟩ = if (3 : Int) = 1 then dst.toList.isEmpty && (decide (1 ≤ num) && decide (num ≤ 6)) && t.toList.isEmpty
    else if (3 : Int) = 2 then dst.toList.isEmpty && (decide (0 ≤ num) && decide (num ≤ 5)) && tokB t.data.toList
    else if (3 : Int) = 3 then nameB dst.data.toList && (num == 0) && t.toList.isEmpty
    else if (3 : Int) = 4 then dst.toList.isEmpty && (num == 0) && t.toList.isEmpty
    else false) := Lib.hid rfl
  clear n0
  obtain ⟨M, hM⟩ : ∃ M, opB ⟨3, nm, dst, num, t⟩ = M := ⟨_, rfl⟩
  rw [hM] at HM ⊢
  clear hM
  obtain ⟨K, hK⟩ : ∃ K, opK ⟨3, nm, dst, num, t⟩ = K := ⟨_, rfl⟩
  rw [hK] at HM HK
  clear hK
  unfold Ov.val
  rw [ha] at HM
  clear ha
  obtain ⟨b, hb⟩ : ∃ b, nameB dst.data.toList = b := ⟨_, rfl⟩
  rw [hb] at HK
  have HBE := Lib.hid hb
  clear hb
  obtain ⟨d, hd⟩ : ∃ d, tokB t.data.toList = d := ⟨_, rfl⟩
  rw [hd] at HTK HK
  clear hd
  obtain ⟨r1, hr1⟩ : ∃ r, (decide (1 ≤ num) && decide (num ≤ 6)) = r := ⟨_, rfl⟩
  rw [hr1] at HI1 HK
  clear hr1
  obtain ⟨r2, hr2⟩ : ∃ r, (decide (0 ≤ num) && decide (num ≤ 5)) = r := ⟨_, rfl⟩
  rw [hr2] at HI2 HK
  clear hr2
  have HN : Hid (M = (b && (num == 0) && t.toList.isEmpty)) := Lib.hid (by rw [HM.out, HK.out]; simp)
  clear HM HK
  cases b
  · go_enter Try.func38, Try.ntmps38
    go_wp2_with (go_at_call 22; refine (HL3.out _ _ (by assumption)).mono ?_; (first | rw [HAE.out] | rw [HBE.out]); rintro e w' ⟨rfl, rfl⟩)
    rw [HN.out]
    exact bodyPost_ret (v := .bool _) (by simp [results, Try.f38, go_sem]) rfl ⟨rfl, HB.out⟩
  · skip
    cases q1 : (num == 0)
    · rw [q1] at HN
      go_enter Try.func38, Try.ntmps38
      go_wp2_with (go_at_call 22; refine (HL3.out _ _ (by assumption)).mono ?_; (first | rw [HAE.out] | rw [HBE.out]); rintro e w' ⟨rfl, rfl⟩)
      rw [HN.out]
      exact bodyPost_ret (v := .bool _) (by simp [results, Try.f38, go_sem]) rfl ⟨rfl, HB.out⟩
    · rw [q1] at HN
      cases q2 : t.toList.isEmpty
      · rw [q2] at HN
        go_enter Try.func38, Try.ntmps38
        go_wp2_with (go_at_call 22; refine (HL3.out _ _ (by assumption)).mono ?_; (first | rw [HAE.out] | rw [HBE.out]); rintro e w' ⟨rfl, rfl⟩)
        rw [HN.out]
        exact bodyPost_ret (v := .bool _) (by simp [results, Try.f38, go_sem]) rfl ⟨rfl, HB.out⟩
      · rw [q2] at HN
        go_enter Try.func38, Try.ntmps38
        go_wp2_with (go_at_call 22; refine (HL3.out _ _ (by assumption)).mono ?_; (first | rw [HAE.out] | rw [HBE.out]); rintro e w' ⟨rfl, rfl⟩)
        rw [HN.out]
        exact bodyPost_ret (v := .bool _) (by simp [results, Try.f38, go_sem]) rfl ⟨rfl, HB.out⟩

set_option maxHeartbeats 3200000 in
theorem opOk_gone (nm dst : ByteArray) (num : Int) (t : ByteArray) (w : World) (h1 : nm.size ≤ maxLen) (h2 : dst.size ≤ maxLen) (h3 : t.size ≤ maxLen) (ha : nameB nm.data.toList = true) :
    Calls Try.prog 38 #[(Ov.mk 4 nm dst num t).val] w fun e w' => e = .returned (.bool (opB ⟨4, nm, dst, num, t⟩)) ∧ Below w.heap.size w w' := by
  have n0 := new_cells w #[.int .i64 4, .string nm, .string dst, .int .i64 num, .string t] 75
  have c0 := n0.1 0
  have c1 := n0.1 1
  have c2 := n0.1 2
  have c3 := n0.1 3
  have c4 := n0.1 4
  have HB : Hid (Below w.heap.size w (w.alloc (.cells #[.int .i64 4, .string nm, .string dst, .int .i64 num, .string t] 75))) := Lib.hid ((Below.refl _ _).alloc (Nat.le_refl _) _)
  have HNA := Lib.hid (fun W => l3Name_any nm W h1)
  have HNT := Lib.hid (fun W => l3Name_any dst W h2)
  have HTK := Lib.hid (fun W => textOkS_any t W h3)
  have HI1 := Lib.hid (fun W => l6In_any num 1 6 W)
  have HI2 := Lib.hid (fun W => l6In_any num 0 5 W)
  have HM : Hid (opB ⟨4, nm, dst, num, t⟩ = (nameB nm.data.toList && opK ⟨4, nm, dst, num, t⟩)) := Lib.hid rfl
  have HK : Hid (opK ⟨4, nm, dst, num, t⟩ = if (4 : Int) = 1 then dst.toList.isEmpty && (decide (1 ≤ num) && decide (num ≤ 6)) && t.toList.isEmpty
    else if (4 : Int) = 2 then dst.toList.isEmpty && (decide (0 ≤ num) && decide (num ≤ 5)) && tokB t.data.toList
    else if (4 : Int) = 3 then nameB dst.data.toList && (num == 0) && t.toList.isEmpty
    else if (4 : Int) = 4 then dst.toList.isEmpty && (num == 0) && t.toList.isEmpty
    else false) := Lib.hid rfl
  clear n0
  obtain ⟨M, hM⟩ : ∃ M, opB ⟨4, nm, dst, num, t⟩ = M := ⟨_, rfl⟩
  rw [hM] at HM ⊢
  clear hM
  obtain ⟨K, hK⟩ : ∃ K, opK ⟨4, nm, dst, num, t⟩ = K := ⟨_, rfl⟩
  rw [hK] at HM HK
  clear hK
  unfold Ov.val
  rw [ha] at HNA HM
  clear ha
  obtain ⟨b, hb⟩ : ∃ b, nameB dst.data.toList = b := ⟨_, rfl⟩
  rw [hb] at HNT HK
  clear hb
  obtain ⟨d, hd⟩ : ∃ d, tokB t.data.toList = d := ⟨_, rfl⟩
  rw [hd] at HTK HK
  clear hd
  obtain ⟨r1, hr1⟩ : ∃ r, (decide (1 ≤ num) && decide (num ≤ 6)) = r := ⟨_, rfl⟩
  rw [hr1] at HI1 HK
  clear hr1
  obtain ⟨r2, hr2⟩ : ∃ r, (decide (0 ≤ num) && decide (num ≤ 5)) = r := ⟨_, rfl⟩
  rw [hr2] at HI2 HK
  clear hr2
  have HN : Hid (M = (dst.toList.isEmpty && (num == 0) && t.toList.isEmpty)) := Lib.hid (by rw [HM.out, HK.out]; simp)
  clear HM HK
  cases q1 : dst.toList.isEmpty
  · rw [q1] at HN
    go_enter Try.func38, Try.ntmps38
    go_wp2_with (go_at_call 22; refine (HNA.out _).mono ?_; rintro e w' ⟨rfl, rfl⟩)
    rw [HN.out]
    exact bodyPost_ret (v := .bool _) (by simp [results, Try.f38, go_sem]) rfl ⟨rfl, HB.out⟩
  · rw [q1] at HN
    cases q3 : (num == 0)
    · rw [q3] at HN
      go_enter Try.func38, Try.ntmps38
      go_wp2_with (go_at_call 22; refine (HNA.out _).mono ?_; rintro e w' ⟨rfl, rfl⟩)
      rw [HN.out]
      exact bodyPost_ret (v := .bool _) (by simp [results, Try.f38, go_sem]) rfl ⟨rfl, HB.out⟩
    · rw [q3] at HN
      cases q2 : t.toList.isEmpty
      · rw [q2] at HN
        go_enter Try.func38, Try.ntmps38
        go_wp2_with (go_at_call 22; refine (HNA.out _).mono ?_; rintro e w' ⟨rfl, rfl⟩)
        rw [HN.out]
        exact bodyPost_ret (v := .bool _) (by simp [results, Try.f38, go_sem]) rfl ⟨rfl, HB.out⟩
      · rw [q2] at HN
        go_enter Try.func38, Try.ntmps38
        go_wp2_with (go_at_call 22; refine (HNA.out _).mono ?_; rintro e w' ⟨rfl, rfl⟩)
        rw [HN.out]
        exact bodyPost_ret (v := .bool _) (by simp [results, Try.f38, go_sem]) rfl ⟨rfl, HB.out⟩

set_option maxHeartbeats 3200000 in
theorem opOk_else (kind : Int) (nm dst : ByteArray) (num : Int) (t : ByteArray) (w : World) (h1 : nm.size ≤ maxLen) (h2 : dst.size ≤ maxLen) (h3 : t.size ≤ maxLen) (ha : nameB nm.data.toList = true) (k1 : kind ≠ 1) (k2 : kind ≠ 2) (k3 : kind ≠ 3) (k4 : kind ≠ 4) :
    Calls Try.prog 38 #[(Ov.mk kind nm dst num t).val] w fun e w' => e = .returned (.bool (opB ⟨kind, nm, dst, num, t⟩)) ∧ Below w.heap.size w w' := by
  have n0 := new_cells w #[.int .i64 kind, .string nm, .string dst, .int .i64 num, .string t] 75
  have c0 := n0.1 0
  have c1 := n0.1 1
  have c2 := n0.1 2
  have c3 := n0.1 3
  have c4 := n0.1 4
  have HB : Hid (Below w.heap.size w (w.alloc (.cells #[.int .i64 kind, .string nm, .string dst, .int .i64 num, .string t] 75))) := Lib.hid ((Below.refl _ _).alloc (Nat.le_refl _) _)
  have HNA := Lib.hid (fun W => l3Name_any nm W h1)
  have HNT := Lib.hid (fun W => l3Name_any dst W h2)
  have HTK := Lib.hid (fun W => textOkS_any t W h3)
  have HI1 := Lib.hid (fun W => l6In_any num 1 6 W)
  have HI2 := Lib.hid (fun W => l6In_any num 0 5 W)
  have HM : Hid (opB ⟨kind, nm, dst, num, t⟩ = (nameB nm.data.toList && opK ⟨kind, nm, dst, num, t⟩)) := Lib.hid rfl
  have HK : Hid (opK ⟨kind, nm, dst, num, t⟩ = if (kind : Int) = 1 then dst.toList.isEmpty && (decide (1 ≤ num) && decide (num ≤ 6)) && t.toList.isEmpty
    else if (kind : Int) = 2 then dst.toList.isEmpty && (decide (0 ≤ num) && decide (num ≤ 5)) && tokB t.data.toList
    else if (kind : Int) = 3 then nameB dst.data.toList && (num == 0) && t.toList.isEmpty
    else if (kind : Int) = 4 then dst.toList.isEmpty && (num == 0) && t.toList.isEmpty
    else false) := Lib.hid rfl
  clear n0
  obtain ⟨M, hM⟩ : ∃ M, opB ⟨kind, nm, dst, num, t⟩ = M := ⟨_, rfl⟩
  rw [hM] at HM ⊢
  clear hM
  obtain ⟨K, hK⟩ : ∃ K, opK ⟨kind, nm, dst, num, t⟩ = K := ⟨_, rfl⟩
  rw [hK] at HM HK
  clear hK
  unfold Ov.val
  rw [ha] at HNA HM
  clear ha
  obtain ⟨b, hb⟩ : ∃ b, nameB dst.data.toList = b := ⟨_, rfl⟩
  rw [hb] at HNT HK
  clear hb
  obtain ⟨d, hd⟩ : ∃ d, tokB t.data.toList = d := ⟨_, rfl⟩
  rw [hd] at HTK HK
  clear hd
  obtain ⟨r1, hr1⟩ : ∃ r, (decide (1 ≤ num) && decide (num ≤ 6)) = r := ⟨_, rfl⟩
  rw [hr1] at HI1 HK
  clear hr1
  obtain ⟨r2, hr2⟩ : ∃ r, (decide (0 ≤ num) && decide (num ≤ 5)) = r := ⟨_, rfl⟩
  rw [hr2] at HI2 HK
  clear hr2
  have HN : Hid (M = false) := Lib.hid (by rw [HM.out, HK.out]; simp [k1, k2, k3, k4])
  go_enter Try.func38, Try.ntmps38
  go_wp2_with (go_at_call 22; refine (HNA.out _).mono ?_; rintro e w' ⟨rfl, rfl⟩)
  rw [HN.out]
  exact bodyPost_ret (v := .bool false) (by simp [results, Try.f38, go_sem]) rfl ⟨rfl, HB.out⟩

theorem OpOk_any (kind : Int) (nm dst : ByteArray) (num : Int) (t : ByteArray) (w : World) (h1 : nm.size ≤ maxLen) (h2 : dst.size ≤ maxLen) (h3 : t.size ≤ maxLen) :
    Calls Try.prog 38 #[(Ov.mk kind nm dst num t).val] w fun e w' => e = .returned (.bool (opB ⟨kind, nm, dst, num, t⟩)) ∧ Below w.heap.size w w' := by
  cases ha : nameB nm.data.toList
  · exact opOk_bad kind nm dst num t w h1 h2 h3 ha
  · by_cases k1 : kind = 1
    · subst k1; exact opOk_make nm dst num t w h1 h2 h3 ha
    by_cases k2 : kind = 2
    · subst k2; exact opOk_write nm dst num t w h1 h2 h3 ha
    by_cases k3 : kind = 3
    · subst k3; exact opOk_clone nm dst num t w h1 h2 h3 ha
    by_cases k4 : kind = 4
    · subst k4; exact opOk_gone nm dst num t w h1 h2 h3 ha
    exact opOk_else kind nm dst num t w h1 h2 h3 ha k1 k2 k3 k4

end Go.Proofs.Ytgogokahpmljbaa
